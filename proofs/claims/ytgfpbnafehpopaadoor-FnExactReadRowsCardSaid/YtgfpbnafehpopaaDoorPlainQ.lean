/- Plain mathematics: what the law says of padded texts. -/
import Derived.Test.YtgfpbnafehpopaaDoorPlainL
import Derived.Test.YtgfpbnafehpopaaDoorPlainP
namespace Go.Proofs.YtgfpbnafehpopaaDoor.pl

theorem spL_succ (n : Nat) : spL (n + 1) = 32 :: spL n := rfl
theorem spl_ahead (n : Nat) (l : List UInt8) : spl [] (spL n ++ l) = spl [] l := by
  induction n with
  | zero => rfl
  | succ n ih => rw [spL_succ, List.cons_append]; conv => lhs; unfold spl
                 rw [if_pos rfl, if_pos rfl, ih]
theorem spl_sp (n : Nat) : ∀ cur, spl cur (spL n) = if cur = [] then [] else [cur] := by
  induction n with
  | zero => intro cur; rfl
  | succ n ih => intro cur; rw [spL_succ]; conv => lhs; unfold spl
                 rw [if_pos rfl, ih, if_pos rfl]
theorem spl_behind (n : Nat) (l : List UInt8) : ∀ cur, spl cur (l ++ spL n) = spl cur l := by
  induction l with
  | nil => intro cur; rw [List.nil_append, spl_sp]; conv => rhs; unfold spl
  | cons c r ih =>
    intro cur
    rw [List.cons_append]
    unfold spl
    rw [ih, ih]
/-- a text with spaces ahead and behind -/
def padded (i : Nat) (s : ByteArray) (j : Nat) : ByteArray := spB i ++ s ++ spB j
theorem padded_data (i : Nat) (s : ByteArray) (j : Nat) : (padded i s j).data.toList = spL i ++ s.data.toList ++ spL j := by
  unfold padded; rw [ByteArray.data_append, Array.toList_append, ByteArray.data_append, Array.toList_append]; rfl
theorem padded_size (i : Nat) (s : ByteArray) (j : Nat) : (padded i s j).size = i + s.size + j := by
  unfold padded; rw [ByteArray.size_append, ByteArray.size_append, spB_size, spB_size]
theorem sp_memb {n : Nat} {c : UInt8} (h : c ∈ spL n) : c = 32 := (List.mem_replicate.1 h).2
theorem all_sp (n : Nat) : (spL n).all plainB = true := by
  rw [List.all_eq_true]; intro x hx; rw [sp_memb hx]; decide
theorem padded_valid {i j : Nat} {s : ByteArray} (h : validT s.data.toList = true) (hl : i + s.size + j ≤ 120) : validT (padded i s j).data.toList = true := by
  have hsz := padded_size i s j
  unfold validT at h ⊢
  simp only [Bool.and_eq_true, decide_eq_true_eq] at h ⊢
  refine ⟨?_, by rw [len_eq]; omega⟩
  rw [padded_data, List.all_append, List.all_append, all_sp, all_sp, h.1]; rfl
theorem padded_words {i j : Nat} {s : ByteArray} (h : validT s.data.toList = true) (hl : i + s.size + j ≤ 120) : wordsOf (padded i s j) = wordsOf s := by
  rw [wordsOf_ok (padded_valid h hl), wordsOf_ok h]
  unfold wordsB wordsL
  rw [padded_data, List.append_assoc, spl_ahead, spl_behind]
/-- what the law asks of a padded text that is not empty -/
structure PadOk (s : ByteArray) (a : Int) (how : ByteArray) : Prop where
  wid : 0 ≤ a ∧ a ≤ 120
  valid : validT s.data.toList = true
  size : (padB s a how).size = max s.size a.toNat
  words : wordsOf (padB s a how) = wordsOf s
  again : padB (padB s a how) a how = padB s a how
theorem padB_padded {s : ByteArray} {wd : Nat} {h : ByteArray} (hv : validT s.data.toList = true) (h2 : wd ≤ 120) (hh : h.data.toList = hLeft ∨ h.data.toList = hRight ∨ h.data.toList = hMid) :
    ∃ i j, i + j = wd - s.size ∧ padB s wd h = padded i s j := by
  rcases hh with hh | hh | hh
  · exact ⟨0, wd - s.size, by omega, by rw [padB_left hv h2 hh]; unfold padded; rw [sp0_app]⟩
  · exact ⟨wd - s.size, 0, by omega, by rw [padB_right hv h2 hh]; unfold padded; rw [app_sp0]⟩
  · exact ⟨(wd - s.size) / 2, wd - s.size - (wd - s.size) / 2, by omega, by rw [padB_mid hv h2 hh]; rfl⟩
theorem padOk_of {s : ByteArray} {a : Int} {how : ByteArray} (h : ¬ (padB s a how).size = 0) : PadOk s a how := by
  by_cases hv : validT s.data.toList = true
  · by_cases h1 : a < 0
    · rw [padB_no (.inr (.inl h1))] at h; exact absurd rfl h
    · by_cases h2 : 120 < a
      · rw [padB_no (.inr (.inr (.inl h2)))] at h; exact absurd rfl h
      · obtain ⟨wd, rfl⟩ := Int.eq_ofNat_of_zero_le (show 0 ≤ a by omega)
        by_cases hh : how.data.toList = hLeft ∨ how.data.toList = hRight ∨ how.data.toList = hMid
        · have hsz := validT_size hv
          obtain ⟨i, j, hij, e⟩ := padB_padded hv (show wd ≤ 120 by omega) hh
          have hv2 := padded_valid (i := i) (j := j) hv (by omega)
          obtain ⟨i2, j2, hij2, e2⟩ := padB_padded hv2 (show wd ≤ 120 by omega) hh
          have hps := padded_size i s j
          obtain rfl : i2 = 0 := by omega
          obtain rfl : j2 = 0 := by omega
          refine ⟨by omega, hv, ?_, ?_, ?_⟩
          · rw [e, hps, Int.toNat_natCast]; omega
          · rw [e]; exact padded_words hv (by omega)
          · rw [e, e2]; unfold padded; rw [sp0_app, app_sp0]
        · rw [padB_no (.inr (.inr (.inr ⟨fun x => hh (.inl x), fun x => hh (.inr (.inl x)), fun x => hh (.inr (.inr x))⟩)))] at h; exact absurd rfl h
  · rw [padB_no (.inl (by simpa using hv))] at h; exact absurd rfl h
end Go.Proofs.YtgfpbnafehpopaaDoor.pl
