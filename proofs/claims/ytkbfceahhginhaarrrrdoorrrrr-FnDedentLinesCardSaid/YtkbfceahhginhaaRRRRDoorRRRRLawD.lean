/- The walk of FnDedentLines. -/
import Derived.Test.YtkbfceahhginhaaRRRRDoorRRRRLawI
import Derived.Deep.RegionHeld3
import Derived.Deep.RegionWith
namespace Go.Proofs.YtkbfceahhginhaaRRRRDoorRRRR
open Go.RowKit
set_option maxRecDepth 100000

namespace pl
theorem back_same {x : ByteArray} {m : Nat} (h : ¬ x.size ≤ ld x) (hm : m ≤ ld x) : ptS m (ebS (tkS m (ebS x))) = x := by
  have h1 := lead_drop x.data.toList m hm
  have h2 : ld (bs (x.data.toList.drop m)) + m = ld x := h1
  have h3 : (bs (x.data.toList.drop m)).size = x.size - m := drop_size
  rw [ded_full h, ind_full (by omega)]
  apply ba_ext
  rw [ByteArray.toList_data_append, bs_data]
  have : (spB m).data.toList = x.data.toList.take m := (lead_take _ _ hm).symm
  rw [this, List.take_append_drop]
theorem back_blank {x : ByteArray} {m : Nat} (h : x.size ≤ ld x) : ptS m (ebS (tkS m (ebS x))) = ⟨#[]⟩ := by
  rw [ded_blank h]; exact ind_blank (Nat.zero_le _)
theorem words_some {x : ByteArray} (hv : validT x.data.toList = true) (h : ¬ x.size ≤ ld x) : ¬ (wordsOf x).length = 0 := by
  intro e
  rw [wordsOf_ok hv] at e
  have e2 : wordsL x.data.toList = [] := by
    have : (wordsL x.data.toList).length = 0 := by simpa [wordsB] using e
    exact List.length_eq_zero_iff.1 this
  have h2 := spl_flat x.data.toList []
  unfold wordsL at e2
  rw [e2] at h2
  have h3 : without x.data.toList 32 = [] := by simpa using h2.symm
  have key : ∀ l : List UInt8, without l 32 = [] → leadL l = l.length := by
    intro l
    induction l with
    | nil => intro _; rfl
    | cons c r ih =>
      intro hw
      unfold without at hw ih
      by_cases e : c = 32
      · subst e
        have := ih (by simpa using hw)
        simp [leadL, this]
      · simp [e] at hw
  have h4 := key _ h3
  have h5 : ld x = x.size := by unfold ld; rw [h4, len_eq]
  omega
theorem dedR_dedR (l : List ByteArray) : dedR (dedR l) = dedR l := by
  by_cases hv : validLs l = true
  · have h1 := ded_valid hv (marginL l).toNat
    rw [dedR_ok hv, dedR_ok h1, ded_margin]
    apply nth_ext (by rw [ded_len])
    intro i hi
    rw [ded_len, ded_len] at hi
    rw [nth_ded (by rw [ded_len]; exact hi), nth_ded hi]
    by_cases e : (nth l i).size ≤ ld (nth l i)
    · rw [ded_blank e, ded_blank (Nat.zero_le _)]
    · rw [show Int.toNat 0 = 0 from rfl]
      have hs := (ded_shift (l := l)).2 i hi
      rw [nth_ded hi] at hs
      rw [ded_full (m := 0) (by rcases hs with h | h <;> omega)]
      exact bs_self _
  · rw [dedR_no (l := l) (by simpa using hv)]
    rfl
end pl

theorem iWordsOf_len (x : ByteArray) (q : Nat) (hq : (pl.wordsOf x).length = q) (w : World) (hs : x.size ≤ maxLen) :
    Calls Tryd.prog 14 #[.string x] w fun e w' => (∃ a c, e = .returned (.slice a q c)) ∧ Below w.heap.size w w' :=
  (iWordsOf_any x w hs).mono fun e w' ⟨v, h1, h2, h3⟩ => by
    obtain ⟨a, c, hv⟩ := h2.reads.slice
    exact ⟨⟨a, c, by rw [h1, hv, hq]⟩, h3⟩
end Go.Proofs.YtkbfceahhginhaaRRRRDoorRRRR
