/- Plain mathematics: indented lines dedented. -/
import Derived.Test.YtkbfceahhginhaaRRRRDoorRRRRPlainN
import Derived.Test.YtkbfceahhginhaaRRRRDoorRRRRIndent
namespace Go.Proofs.YtkbfceahhginhaaRRRRDoorRRRR.pl

def aTo (l : List ByteArray) (k : Nat) : List ByteArray := ((l.take k).map wordsOf).flatten
theorem aTo_zero (l : List ByteArray) : aTo l 0 = [] := rfl
theorem aTo_succ {l : List ByteArray} {k : Nat} {x : ByteArray} (h : k < l.length) (hx : nth l k = x) : aTo l k ++ wordsOf x = aTo l (k + 1) := by
  unfold aTo
  rw [List.take_succ_eq_append_getElem h, List.map_append, List.flatten_append, ← hx, nth_eq h]; simp
theorem aTo_len (l : List ByteArray) : ∀ k, k ≤ l.length → (aTo l k).length ≤ 120 * k
  | 0, _ => Nat.le_refl _
  | k + 1, h => by
    have := aTo_len l k (by omega)
    have h2 := wordsOf_len (nth l k)
    rw [← aTo_succ (by omega) rfl, List.length_append]; omega
theorem aTo_some {l : List ByteArray} : ∀ k, k ≤ l.length → 0 < (aTo l k).length → ∃ i, i < l.length ∧ ld (nth l i) < (nth l i).size
  | 0, _, h => absurd h (by simp [aTo])
  | k + 1, hk, h => by
    by_cases e : (nth l k).size ≤ ld (nth l k)
    · refine aTo_some k (by omega) ?_
      rw [← aTo_succ (by omega) rfl, blank_words e, List.append_nil] at h
      exact h
    · exact ⟨k, by omega, by omega⟩
theorem indB_true {l : List ByteArray} {a : Int} (h : indB l a = true) : ∃ n : Nat, a = n ∧ n ≤ 10 ∧ validLs l = true ∧ validLs (ind l n) = true := by
  unfold indB at h
  simp only [Bool.and_eq_true, decide_eq_true_eq] at h
  exact ⟨a.toNat, by omega, by omega, h.1, h.2.2⟩
theorem ind_margin {l : List ByteArray} {n i : Nat} (hi : i < l.length) (hb : ld (nth l i) < (nth l i).size) : marginL (ind l n) = marginL l + n := by
  have h := mTo_shift (ind_shift (l := l) (n := n)) l.length (Nat.le_refl _)
  have h2 := mTo_le hi hb l.length hi (Nat.le_refl _)
  show max (mTo (ind l n) (ind l n).length) 0 = max (mTo l l.length) 0 + n
  rw [ind_len]
  omega
theorem ded_ind {l : List ByteArray} {n : Nat} : ded (ind l n) (marginL (ind l n)).toNat = ded l (marginL l).toNat := by
  apply nth_ext (by rw [ded_len, ded_len, ind_len])
  intro i hi
  rw [ded_len, ind_len] at hi
  rw [nth_ded (by rw [ind_len]; exact hi), nth_ded hi, nth_ind hi]
  by_cases e : (nth l i).size ≤ ld (nth l i)
  · rw [ind_blank e, ded_blank e, ded_blank (by exact Nat.zero_le _)]
  · have hb : ld (nth l i) < (nth l i).size := by omega
    have hm := ind_margin (n := n) hi hb
    have hn := margin_nat l
    have hmt : (marginL (ind l n)).toNat = n + (marginL l).toNat := by omega
    have hs := (ind_shift (l := l) (n := n)).2 i hi
    rw [nth_ind hi] at hs
    rw [ind_full e] at hs ⊢
    rw [hmt, ded_full e, ded_full (by rcases hs with h | h <;> omega)]
    rw [ByteArray.toList_data_append]
    have : (spB n).data.toList = spL n := rfl
    rw [this, List.drop_append, List.drop_of_length_le (by rw [spL_len]; omega), spL_len, List.nil_append, Nat.add_sub_cancel_left]
theorem dedR_ind {l : List ByteArray} {n : Nat} (h1 : validLs l = true) (h2 : validLs (ind l n) = true) : dedR (ind l n) = dedR l := by
  rw [dedR_ok h1, dedR_ok h2, ded_ind]
end Go.Proofs.YtkbfceahhginhaaRRRRDoorRRRR.pl
