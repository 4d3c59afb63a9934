/- Plain: what a form is filled to. -/
import Derived.Test.YtadlelcckalcoaaVals
import Derived.Test.YtadlelcckalcoaaPlainOf
namespace Go.Proofs.Ytadlelcckalcoaa
open Go.RowKit
set_option linter.unusedVariables false
namespace pl
theorem look_mem {fs : FL} {n : Nm} {x : List UInt8} (h : lookL fs n = some x) : ∃ p ∈ fs, p.1 = n ∧ p.2 = x := by
  unfold lookL at h
  obtain ⟨p, hp, hx⟩ := Option.map_eq_some_iff.1 h
  exact ⟨p, List.mem_of_find?_eq_some hp, by simpa using List.find?_some hp, hx⟩
theorem vF_valid {fl : List Pc} (h : vF fl) {n : Nm} {x : List UInt8} (hx : lookL (toFL fl) n = some x) : validT x = true := by
  obtain ⟨p, hp, _, h2⟩ := look_mem hx
  obtain ⟨q, hq, rfl⟩ := List.mem_map.1 hp
  obtain ⟨i, hi, he⟩ := List.getElem_of_mem hq
  have := (h.2 i hi).2.1
  rw [nthQ_eq hi, he] at this
  rw [← h2]; exact this
theorem validT_len {x : List UInt8} (h : validT x = true) : x.length ≤ 120 := by
  have := validT_size (s := bs x) (by rw [bs_data]; exact h)
  rwa [bs_size] at this
theorem fill_tok (vs : Vals) (n p : ByteArray) : fillT vs (tokP n p) = valP vs n p := by
  by_cases h : n.size = 0
  · rw [tokP_plain p h, valP_plain vs p h, fillT_bytes]
  · rw [tokP_hole p h, valP_hole vs p h, fillT_hole]
theorem fill_next {vs : Vals} {ps : List Pc} {k : Nat} {o v : List UInt8} (hk : k < ps.length) (ho : fillT vs (flatTo ps k) = some o) (hv : valP vs (nthQ ps k).1 (nthQ ps k).2 = some v) : fillT vs (flatTo ps (k + 1)) = some (o ++ v) := by
  rw [flatTo_succ hk, fillT_append, ho, fill_tok, hv]; rfl
theorem fill_stop {vs : Vals} {ps : List Pc} {k : Nat} {o : List UInt8} (hk : k < ps.length) (ho : fillT vs (flatTo ps k) = some o) (hv : valP vs (nthQ ps k).1 (nthQ ps k).2 = none) : fillT vs (flatP ps) = none := by
  have h1 : flatP ps = flatTo ps (k + 1) ++ flatP (ps.drop (k + 1)) := by
    unfold flatTo flatP
    rw [← List.flatMap_append, List.take_append_drop]
  rw [h1, fillT_append, flatTo_succ hk, fillT_append, ho, fill_tok, hv]; rfl
/-- what FillForm answers -/
def FillIs (s : ByteArray) (fl : List Pc) (o : Option (List UInt8)) : Prop :=
  (o = none ∧ (formT s.data.toList = none ∨ ¬ vF fl)) ∨ (vF fl ∧ ∃ ts, formT s.data.toList = some ts ∧ ((fillT (lookL (toFL fl)) ts = none ∧ o = none) ∨ ∃ x, fillT (lookL (toFL fl)) ts = some x ∧ ((validT x = true ∧ o = some x) ∨ (validT x = false ∧ o = none))))
theorem FillIs.uniq {s : ByteArray} {fl : List Pc} {o o' : Option (List UInt8)} (h : FillIs s fl o) (h' : FillIs s fl o') : o = o' := by
  rcases h with ⟨rfl, h⟩ | ⟨hv, ts, ht, h⟩
  · rcases h' with ⟨rfl, h'⟩ | ⟨hv', ts', ht', h'⟩
    · rfl
    · rcases h with h | h
      · rw [h] at ht'; cases ht'
      · exact absurd hv' h
  · rcases h' with ⟨rfl, h'⟩ | ⟨hv', ts', ht', h'⟩
    · rcases h' with h' | h'
      · rw [h'] at ht; cases ht
      · exact absurd hv h'
    · rw [ht] at ht'; injection ht' with e; subst e
      rcases h with ⟨h, rfl⟩ | ⟨x, hx, h⟩
      · rcases h' with ⟨h', rfl⟩ | ⟨y, hy, h'⟩
        · rfl
        · rw [h] at hy; cases hy
      · rcases h' with ⟨h', rfl⟩ | ⟨y, hy, h'⟩
        · rw [h'] at hx; cases hx
        · rw [hx] at hy; injection hy with e; subst e
          rcases h with ⟨h, rfl⟩ | ⟨h, rfl⟩ <;> rcases h' with ⟨h', rfl⟩ | ⟨h', rfl⟩
          · rfl
          · rw [h] at h'; cases h'
          · rw [h] at h'; cases h'
          · rfl
end pl
end Go.Proofs.Ytadlelcckalcoaa
