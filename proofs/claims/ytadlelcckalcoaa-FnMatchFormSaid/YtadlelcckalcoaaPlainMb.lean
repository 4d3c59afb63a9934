/- The model's match, step by step. -/
import Derived.Test.YtadlelcckalcoaaPlainMa
import Derived.Test.YtadlelcckalcoaaPlainFs
namespace Go.Proofs.Ytadlelcckalcoaa.pl
set_option linter.unusedVariables false

theorem ext_takeM (s : ByteArray) (k : Nat) : (s.extract 0 k).data.toList = s.data.toList.take k := by rw [Lib.extract_data]; simp
theorem ext_dropM (s : ByteArray) (k : Nat) : (s.extract k s.size).data.toList = s.data.toList.drop k := by
  rw [Lib.extract_data, ← len_eq, List.take_of_length_le (by rw [List.length_drop]; exact Nat.le_refl _)]
theorem drop_nth {a : List ByteArray} {i : Nat} (h : i < a.length) : a.drop i = nth a i :: a.drop (i + 1) := by
  rw [nth_eq h]; exact List.drop_eq_getElem_cons h
/-- what is still to be matched -/
def restT (T N : List ByteArray) (i : Nat) : List Tok := toT (T.drop i) (N.drop i)
/-- one try for a hole: a value that it has, or another -/
def tryV (r : List Tok) (fs : FL) (n : Nm) (o : Option (List UInt8)) (s : List UInt8) (k : Nat) : Option FL :=
  match o with
  | some x => if s.take k = x then matchT r fs (s.drop k) else none
  | none => matchT r (fs ++ [(n, s.take k)]) (s.drop k)
theorem findK_one {f : Nat → Option FL} {m : Nat} : ∀ (c k : Nat), (∀ j, k ≤ j → j < k + c → j ≠ m → f j = none) → findK f k c = if k ≤ m ∧ m < k + c then f m else none
  | 0, k, h => by rw [if_neg (by omega)]; rfl
  | c + 1, k, h => by
    by_cases e : k = m
    · subst e
      rw [if_pos ⟨Nat.le_refl _, by omega⟩]
      cases hf : f k with
      | some x => exact findK_hit hf
      | none =>
        rw [findK_miss hf, findK_one c (k + 1) (fun j h1 h2 h3 => h j (by omega) (by omega) h3), if_neg (by omega)]
    · rw [findK_miss (h k (Nat.le_refl _) (by omega) e), findK_one c (k + 1) (fun j h1 h2 h3 => h j (by omega) (by omega) h3)]
      by_cases hc : k + 1 ≤ m ∧ m < k + 1 + c
      · rw [if_pos hc, if_pos (by omega)]
      · rw [if_neg hc, if_neg (by omega)]
theorem hole_try (n : Nm) (r : List Tok) (fs : FL) (s : List UInt8) : matchT (.inr n :: r) fs s = findK (tryV r fs n (lookL fs n) s) 0 (s.length + 1) := by
  cases h : lookL fs n with
  | none => rw [matchT_new h]; rfl
  | some x =>
    rw [matchT_old h, findK_one (m := x.length)]
    · by_cases hp : x.isPrefixOf s = true
      · rw [if_pos hp]
        rw [List.isPrefixOf_iff_prefix] at hp
        obtain ⟨t, rfl⟩ := hp
        rw [if_pos ⟨Nat.zero_le _, by rw [List.length_append]; omega⟩]
        show _ = if (x ++ t).take x.length = x then _ else _
        rw [if_pos (by simp)]
      · rw [if_neg hp]
        by_cases hl : 0 ≤ x.length ∧ x.length < 0 + (s.length + 1)
        · rw [if_pos hl]
          show _ = if s.take x.length = x then _ else _
          rw [if_neg]
          intro e
          apply hp
          rw [List.isPrefixOf_iff_prefix]
          exact ⟨s.drop x.length, (congrArg (· ++ s.drop x.length) e.symm).trans (List.take_append_drop _ _)⟩
        · rw [if_neg hl]
    · intro j _ hj hne
      show (if s.take j = x then _ else _) = _
      rw [if_neg]
      intro e
      apply hne
      rw [← e, List.length_take]
      omega
theorem rest_end {T N : List ByteArray} {i : Nat} (hl : T.length = N.length + 1) (hi : i = N.length) : restT T N i = chT (nth T i) := by
  subst hi
  unfold restT
  rw [drop_nth (by omega), List.drop_eq_nil_of_le (Nat.le_refl N.length)]
  rfl
theorem rest_hole {T N : List ByteArray} {i : Nat} (hl : T.length = N.length + 1) (hi : i < N.length) : restT T N i = chT (nth T i) ++ Sum.inr (nth N i).data.toList :: restT T N (i + 1) := by
  unfold restT
  rw [drop_nth (a := T) (by omega), drop_nth (a := N) hi]
  rfl
/-- a text ahead is met -/
theorem pre_yes {s t : ByteArray} (h : s.extract 0 t.size = t) : t.data.toList.isPrefixOf s.data.toList = true := by
  rw [List.isPrefixOf_iff_prefix]
  refine ⟨s.data.toList.drop t.size, ?_⟩
  have : t.data.toList = s.data.toList.take t.size := by
    rw [← ext_takeM, h]
  rw [this, List.take_append_drop]
theorem pre_no {s t : ByteArray} (h : ¬ s.extract 0 t.size = t ∨ s.size < t.size) : t.data.toList.isPrefixOf s.data.toList = false := by
  rw [Bool.eq_false_iff]
  intro hp
  rw [List.isPrefixOf_iff_prefix] at hp
  obtain ⟨u, hu⟩ := hp
  rcases h with h | h
  · apply h
    have : (s.extract 0 t.size).data.toList = t.data.toList := by
      rw [ext_takeM, ← hu, ← len_eq, List.take_left]
    rw [← bs_self (s.extract 0 t.size), this, bs_self]
  · have := congrArg List.length hu
    rw [List.length_append, len_eq, len_eq] at this
    omega
theorem run_yes {s t : ByteArray} (h : s.extract 0 t.size = t) (r : List Tok) (fs : FL) : matchT (chT t ++ r) fs s.data.toList = matchT r fs (s.extract t.size s.size).data.toList := by
  unfold chT
  rw [matchT_run, if_pos (pre_yes h), ext_dropM, len_eq]
theorem run_no {s t : ByteArray} (h : ¬ s.extract 0 t.size = t ∨ s.size < t.size) (r : List Tok) (fs : FL) : matchT (chT t ++ r) fs s.data.toList = none := by
  unfold chT
  rw [matchT_run, if_neg (by rw [pre_no h]; simp)]
end Go.Proofs.Ytadlelcckalcoaa.pl
