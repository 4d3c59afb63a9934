/- Plain: forms filled in two steps, and what holes are left. -/
import Derived.Test.YtadlelcckalcoaaDoorPlainFt
import Derived.Test.YtadlelcckalcoaaDoorFillSm
namespace Go.Proofs.YtadlelcckalcoaaDoor.pl
set_option linter.unusedVariables false
theorem fillIs_form {s : ByteArray} {fl : List Pc} {x : List UInt8} (h : FillIs s fl (some x)) : vF fl ∧ validT x = true ∧ ∃ ts, formT s.data.toList = some ts ∧ fillT (lookL (toFL fl)) ts = some x := by
  rcases h with ⟨h, _⟩ | ⟨hv, ts, ht, h⟩
  · cases h
  · rcases h with ⟨_, h⟩ | ⟨y, hy, h⟩
    · cases h
    · rcases h with ⟨h1, h2⟩ | ⟨_, h2⟩
      · injection h2 with h2; subst h2; exact ⟨hv, h1, ts, ht, hy⟩
      · cases h2
theorem someIs_form {s : ByteArray} {fl : List Pc} {y : List UInt8} (h : SomeIs s fl (some y)) : vF fl ∧ validT y = true ∧ ∃ ts, formT s.data.toList = some ts ∧ y = someT (lookL (toFL fl)) ts := by
  rcases h with ⟨h, _⟩ | ⟨hv, ts, ht, h⟩
  · cases h
  · rcases h with ⟨h1, h2⟩ | ⟨_, h2⟩
    · injection h2 with h2; subst h2; exact ⟨hv, h1, ts, ht, rfl⟩
    · cases h2
theorem vF_nil : vF [] := ⟨Nat.zero_le _, goodTo_zero _⟩
/-- filled in two steps -/
theorem fill_two {s : ByteArray} {fl : List Pc} {x y : List UInt8} (h : FillIs s fl (some x)) (h2 : SomeIs s fl (some y)) : FillIs (bs y) [] (some x) := by
  obtain ⟨hv, hx, ts, ht, hf⟩ := fillIs_form h
  obtain ⟨_, hy, ts', ht', rfl⟩ := someIs_form h2
  rw [ht] at ht'; injection ht' with e; subst e
  obtain ⟨k1, k2⟩ := formT_named ht
  exact .inr ⟨vF_nil, _, by rw [bs_data]; exact some_form k1 k2 hy, .inr ⟨x, fill_sub _ hf, .inl ⟨hx, rfl⟩⟩⟩
/-- filled again it stays -/
theorem some_two {s : ByteArray} {fl : List Pc} {y : List UInt8} (h : SomeIs s fl (some y)) : SomeIs (bs y) fl (some y) := by
  obtain ⟨hv, hy, ts, ht, rfl⟩ := someIs_form h
  obtain ⟨k1, k2⟩ := formT_named ht
  refine .inr ⟨hv, _, by rw [bs_data]; exact some_form k1 k2 hy, .inl ?_⟩
  rw [some_again]
  exact ⟨hy, rfl⟩
/-- a name has no fill -/
def noFill (fl : List Pc) (n : ByteArray) : Bool := fl.all fun p => decide (¬ p.1 = n)
theorem noFill_look (fl : List Pc) (n : ByteArray) : noFill fl n = !(lookL (toFL fl) n.data.toList).isSome := by
  cases h : (lookL (toFL fl) n.data.toList).isSome with
  | true =>
    rw [lookL_some_iff] at h
    obtain ⟨p, hp, he⟩ := List.mem_map.1 h
    obtain ⟨q, hq, rfl⟩ := List.mem_map.1 hp
    have hqn : q.1 = n := ba_ext he
    unfold noFill
    rw [Bool.not_true, List.all_eq_false]
    exact ⟨q, hq, by simp [hqn]⟩
  | false =>
    have h' : ¬ n.data.toList ∈ (toFL fl).map (·.1) := fun hm => by rw [lookL_some_iff.2 hm] at h; cases h
    unfold noFill
    rw [Bool.not_false, List.all_eq_true]
    intro q hq
    rw [decide_eq_true_eq]
    intro e
    exact h' (List.mem_map.2 ⟨_, List.mem_map.2 ⟨q, hq, rfl⟩, by rw [e]⟩)
/-- the holes that are left -/
theorem some_holes {s : ByteArray} {fl : List Pc} {y : List UInt8} (h : SomeIs s fl (some y)) : holesR (bs y) = (holesR s).filter (noFill fl) := by
  obtain ⟨hv, hy, ts, ht, rfl⟩ := someIs_form h
  obtain ⟨k1, k2⟩ := formT_named ht
  rw [holesR_yes (by rw [bs_data]; exact some_form k1 k2 hy), holesR_yes ht]
  unfold holesD
  have e := ded_filter (fun n => !((lookL (toFL fl)) n).isSome) (holesT ts) []
  rw [List.filter_nil] at e
  rw [holesT_sub, e, List.filter_map]
  congr 1
  apply List.filter_congr
  intro n _
  show _ = noFill fl (bs n)
  rw [noFill_look, bs_data]
theorem noFill_nil (n : ByteArray) : noFill [] n = true := rfl
/-- none of the first k fills has the name -/
def metTo (fl : List Pc) (n : ByteArray) (k : Nat) : Bool := !noFill (fl.take k) n
theorem metTo_zero (fl : List Pc) (n : ByteArray) : metTo fl n 0 = false := rfl
theorem metTo_succ {fl : List Pc} {n : ByteArray} {k : Nat} (h : k < fl.length) : metTo fl n (k + 1) = (metTo fl n k || decide ((nthQ fl k).1 = n)) := by
  unfold metTo noFill
  rw [List.take_succ_eq_append_getElem h, List.all_append, nthQ_eq h]
  simp
theorem metTo_all (fl : List Pc) (n : ByteArray) : noFill fl n = !metTo fl n fl.length := by
  unfold metTo; rw [List.take_length, Bool.not_not]
theorem filter_next {p : ByteArray → Bool} {N : List ByteArray} {i : Nat} (h : i < N.length) : (N.take (i + 1)).filter p = if p (nth N i) = true then (N.take i).filter p ++ [nth N i] else (N.take i).filter p := by
  rw [List.take_succ_eq_append_getElem h, List.filter_append, nth_eq h, List.filter_cons]
  split <;> simp
end Go.Proofs.YtadlelcckalcoaaDoor.pl
