/- Plain mathematics: justified lines have their words, and gaps that differ by one at most. -/
import Derived.Test.YtckfpneooknifaaPlainY
import Derived.Test.YtckfpneooknifaaPkB
namespace Go.Proofs.Ytckfpneooknifaa.pl

/-- the gap behind word k -/
def gap (q r k : Nat) : Nat := if k < r then q + 1 else q
theorem gap_ge (q r k : Nat) : q ≤ gap q r k := by unfold gap; split <;> omega
theorem gap_le (q r k : Nat) : gap q r k ≤ q + 1 := by unfold gap; split <;> omega
theorem gap_next (q r k : Nat) : gap q r (k + 1) ≤ gap q r k := by unfold gap; split <;> split <;> omega
theorem gap_zero (q r k : Nat) : gap q r k ≤ gap q r 0 := by unfold gap; split <;> split <;> omega
theorem jTo_gap (q r : Nat) (l : List ByteArray) (k : Nat) : jTo q r l (k + 2) = jTo q r l (k + 1) ++ spB (gap q r k) ++ nth l (k + 1) := rfl
theorem jTo_data (q r : Nat) (l : List ByteArray) (k : Nat) : (jTo q r l (k + 2)).data.toList = (jTo q r l (k + 1)).data.toList ++ (spL (gap q r k) ++ (nth l (k + 1)).data.toList) := by
  rw [jTo_gap]
  rw [ByteArray.data_append, ByteArray.data_append, Array.toList_append, Array.toList_append, List.append_assoc]; rfl
theorem jTo_len (q r : Nat) {l : List ByteArray} : ∀ k, k + 1 ≤ l.length → (jTo q r l (k + 1)).size = (jn l (bs []) (k + 1)).size + k * q + min k r
  | 0, h => by
    rw [jn_one _ (by omega)]
    show (nth l 0).size = _
    omega
  | k + 1, h => by
    have ih := jTo_len q r (l := l) k (by omega)
    rw [jTo_gap, jn_succ _ (by omega) (by omega)]
    simp only [ByteArray.size_append]
    rw [ih, spB_size, Nat.succ_mul]
    have e2 : (bs []).size = 0 := rfl
    rw [e2]
    unfold gap
    split <;> omega
theorem jTo_full {l : List ByteArray} {p B : Nat} (hp : l.length = p + 1) (hp1 : 1 ≤ p) : (jTo (B / p) (B % p) l (p + 1)).size = sz0 l + B := by
  rw [jTo_len _ _ p (by omega), ← hp, jn_all]
  have h1 := Nat.div_add_mod B p
  have h2 := Nat.mod_lt B (show p > 0 by omega)
  have e : min p (B % p) = B % p := by omega
  rw [e, Nat.mul_comm p] at *
  unfold sz0
  omega
/-- the line begins with what stands behind k words -/
theorem jTo_pre (q r : Nat) (l : List ByteArray) (k : Nat) : ∀ d, ∃ t, (jTo q r l (k + 1 + d)).data.toList = (jTo q r l (k + 1)).data.toList ++ t
  | 0 => ⟨[], by simp⟩
  | d + 1 => by
    obtain ⟨t, ht⟩ := jTo_pre q r l k d
    refine ⟨t ++ (spL (gap q r (k + d)) ++ (nth l (k + d + 1)).data.toList), ?_⟩
    rw [show k + 1 + (d + 1) = k + d + 2 from by omega, jTo_data, show k + d + 1 = k + 1 + d from by omega, ht, List.append_assoc]
theorem get_list {s : ByteArray} {i : Nat} {c : UInt8} (h : s.data.toList[i]? = some c) : ∃ h2 : i < s.size, s[i]'h2 = c := by
  obtain ⟨h1, e⟩ := List.getElem?_eq_some_iff.1 h
  exact ⟨by rw [← len_eq]; exact h1, e⟩
/-- what stands in the gap behind word k, and behind it -/
theorem jTo_scan {q r : Nat} {l : List ByteArray} {k p : Nat} (hk : k < p) (hw : wordOK (nth l (k + 1)) = true) :
    (∀ n, n < gap q r k → ∃ h : (jTo q r l (k + 1)).size + n < (jTo q r l (p + 1)).size, (jTo q r l (p + 1))[(jTo q r l (k + 1)).size + n]'h = 32) ∧
    ∃ h : (jTo q r l (k + 1)).size + gap q r k < (jTo q r l (p + 1)).size, ¬ (jTo q r l (p + 1))[(jTo q r l (k + 1)).size + gap q r k]'h = 32 := by
  obtain ⟨t, ht⟩ := jTo_pre q r l (k + 1) (p - k - 1)
  rw [show k + 1 + 1 + (p - k - 1) = p + 1 from by omega, show k + 1 + 1 = k + 2 from rfl, jTo_data, List.append_assoc] at ht
  have hsl : (jTo q r l (k + 1)).data.toList.length = (jTo q r l (k + 1)).size := len_eq _
  obtain ⟨w1, w2, w3⟩ := wordOK_parts hw
  constructor
  · intro n hn
    apply get_list
    rw [ht, List.getElem?_append_right (by omega), hsl, Nat.add_sub_cancel_left, List.append_assoc, List.getElem?_append_left (by rw [spL_len]; exact hn)]
    unfold spL
    rw [List.getElem?_replicate, if_pos hn]
  · obtain ⟨c, hc⟩ : ∃ c, (nth l (k + 1)).data.toList[0]? = some c := ⟨_, List.getElem?_eq_getElem (by rw [len_eq]; omega)⟩
    have hg : (jTo q r l (p + 1)).data.toList[(jTo q r l (k + 1)).size + gap q r k]? = some c := by
      rw [ht, List.getElem?_append_right (by omega), hsl, Nat.add_sub_cancel_left, List.append_assoc, List.getElem?_append_right (by rw [spL_len]; omega), spL_len, Nat.sub_self, List.getElem?_append_left (by rw [len_eq]; omega)]
      exact hc
    obtain ⟨h1, h2⟩ := get_list hg
    refine ⟨h1, ?_⟩
    rw [h2]
    have hm : c ∈ (nth l (k + 1)).data.toList := List.mem_of_getElem? hc
    rw [List.all_eq_true] at w3
    exact (wb_plain (w3 c hm)).2
theorem word_good {x : ByteArray} (h : wordOK x = true) : good x.data.toList := by
  obtain ⟨h1, _, h3⟩ := wordOK_parts h
  rw [List.all_eq_true] at h3
  refine ⟨fun e => ?_, fun c hc => (wb_plain (h3 c hc)).2⟩
  have := congrArg List.length e
  rw [len_eq, List.length_nil] at this; omega
theorem jTo_spl {q r : Nat} {l : List ByteArray} (hq : 1 ≤ q) (hw : wordsTo l l.length) : ∀ k, k + 1 ≤ l.length → ∀ t, spl [] ((jTo q r l (k + 1)).data.toList ++ t) = toL (l.take k) ++ spl (nth l k).data.toList t
  | 0, h, t => by
    have hg := word_good (hw 0 (by omega))
    show spl [] ((nth l 0).data.toList ++ t) = _
    rw [spl_app hg.2]; rfl
  | k + 1, h, t => by
    have ih := jTo_spl (r := r) hq hw k (by omega)
    have hg := word_good (hw k (by omega))
    have hg1 := word_good (hw (k + 1) (by omega))
    obtain ⟨g, hgap⟩ : ∃ g, gap q r k = g + 1 := ⟨gap q r k - 1, by have := gap_ge q r k; omega⟩
    rw [jTo_data, List.append_assoc, ih, hgap, List.append_assoc, spL_succ, List.cons_append]
    conv => lhs; rhs; unfold spl
    rw [if_pos rfl, if_neg hg.1, spl_ahead, spl_app hg1.2, List.nil_append, List.take_succ_eq_append_getElem (by omega), toL_append, ← nth_eq (by omega)]
    simp [toL]
theorem jTo_words {q r : Nat} {l : List ByteArray} {p : Nat} (hq : 1 ≤ q) (hw : wordsTo l l.length) (hp : l.length = p + 1) : wordsB (jTo q r l (p + 1)) = l := by
  have h := jTo_spl (r := r) hq hw p (by omega) []
  have hg := word_good (hw p (by omega))
  rw [List.append_nil] at h
  have h2 : spl (nth l p).data.toList [] = [(nth l p).data.toList] := by
    unfold spl; rw [if_neg hg.1]
  rw [h2] at h
  have h3 : toL (l.take p) ++ [(nth l p).data.toList] = toL l := by
    have e : l = l.take p ++ [nth l p] := by
      conv => lhs; rw [← List.take_length (l := l), hp, List.take_succ_eq_append_getElem (by omega), ← nth_eq (by omega)]
    conv => rhs; rw [e, toL_append]
    rfl
  rw [h3] at h
  rw [wordsB_eq h.symm]
  unfold toL
  rw [List.map_map]
  conv => rhs; rw [← List.map_id l]
  apply List.map_congr_left
  intro x _
  exact bs_self x
theorem jTo_plain {q r : Nat} {l : List ByteArray} (hw : wordsTo l l.length) : ∀ k, k + 1 ≤ l.length → (jTo q r l (k + 1)).data.toList.all plainB = true
  | 0, h => by
    have := (wordOK_parts (hw 0 (by omega))).2.2
    rw [List.all_eq_true] at this ⊢
    exact fun c hc => (wb_plain (this c hc)).1
  | k + 1, h => by
    have ih := jTo_plain (q := q) (r := r) hw k (by omega)
    have h1 := (wordOK_parts (hw (k + 1) (by omega))).2.2
    rw [jTo_data, List.all_append, List.all_append, ih, all_sp, Bool.true_and, Bool.true_and]
    rw [List.all_eq_true] at h1 ⊢
    exact fun c hc => (wb_plain (h1 c hc)).1
theorem jTo_wordsOf {q r : Nat} {l : List ByteArray} {p : Nat} (hq : 1 ≤ q) (hw : wordsTo l l.length) (hp : l.length = p + 1) (hs : (jTo q r l (p + 1)).size ≤ 120) : wordsOf (jTo q r l (p + 1)) = l := by
  have hv : validT (jTo q r l (p + 1)).data.toList = true := by
    unfold validT
    rw [jTo_plain hw p (by omega), len_eq, decide_eq_true hs]; rfl
  rw [wordsOf_ok hv, jTo_words hq hw hp]
end Go.Proofs.Ytckfpneooknifaa.pl
