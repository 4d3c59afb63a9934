/- Contracts: slices of slices of strings compared, written and held (the laws' eqStringSS, equalRows, markStringSS, heldStringSS). -/
import Derived.Test.YtckfpneooknifaaParts
import Derived.Laws.AppendOwnNone
import Derived.Test.YtckfpneooknifaaLawExW
import Derived.Deep.RegionHeldLaw
namespace Go.Proofs.Ytckfpneooknifaa
open Go.RowKit
set_option maxRecDepth 100000

theorem HPs.len {B : Nat} {w : World} {v : Value} {ps : pl.Gs} (h : HPs B w v ps) : ∃ a cap, v = .slice a ps.length cap := h.reads.slice

theorem equalTexts_selfM (l : List ByteArray) (va vb : Value) (w : World) (hA : RStrs w va l) (hB : RStrs w vb l) (hl : l.length ≤ 2000000) :
    Calls Try.prog 19 #[va, vb] w fun e w' => e = .returned (.bool true) ∧ Below w.heap.size w w' :=
  (equalTexts_any l l va vb w hA hB hl).mono fun e w' ⟨h1, h2⟩ => ⟨by rw [h1]; simp, h2⟩

/-- the marks of rows, from k on -/
def marksP (k : Nat) (ps : pl.Gs) : pl.Gs := (List.range ps.length).map fun j => marks (k + pl.totTo ps j) (pl.nthP ps j).length
theorem marksP_len (k : Nat) (ps : pl.Gs) : (marksP k ps).length = ps.length := by simp [marksP]
theorem marksP_nth {k : Nat} {ps : pl.Gs} {j : Nat} (h : j < ps.length) : pl.nthP (marksP k ps) j = marks (k + pl.totTo ps j) (pl.nthP ps j).length := by
  rw [pl.nthP_eq (by rw [marksP_len]; exact h)]; simp [marksP]
/-- the first j rows are marked -/
def mixP (k j : Nat) (ps : pl.Gs) : pl.Gs := (List.range ps.length).map fun i => if i < j then marks (k + pl.totTo ps i) (pl.nthP ps i).length else pl.nthP ps i
theorem mixP_len (k j : Nat) (ps : pl.Gs) : (mixP k j ps).length = ps.length := by simp [mixP]
theorem mixP_nth {k j : Nat} {ps : pl.Gs} {i : Nat} (h : i < ps.length) : pl.nthP (mixP k j ps) i = if i < j then marks (k + pl.totTo ps i) (pl.nthP ps i).length else pl.nthP ps i := by
  rw [pl.nthP_eq (by rw [mixP_len]; exact h)]; simp [mixP]
theorem mixP_zero (k : Nat) (ps : pl.Gs) : mixP k 0 ps = ps := by
  apply List.ext_getElem (mixP_len k 0 ps)
  intro i h1 h2
  rw [← pl.nthP_eq h1, mixP_nth h2, if_neg (by omega), pl.nthP_eq h2]
theorem mixP_all (k : Nat) (ps : pl.Gs) : mixP k ps.length ps = marksP k ps := by
  apply List.ext_getElem (by rw [mixP_len, marksP_len])
  intro i h1 h2
  rw [mixP_len] at h1
  rw [← pl.nthP_eq (by rw [mixP_len]; exact h1), ← pl.nthP_eq h2, mixP_nth h1, if_pos h1, marksP_nth h1]
theorem mixP_step {B k j : Nat} {w w' : World} {us : List Value} {ps : pl.Gs} (h : Inn B w us (mixP k j ps)) (hj : j < ps.length) (hu : OStrs B w' (nthV us j) (marks (k + pl.totTo ps j) (pl.nthP ps j).length)) (hg : w.grownBy w' (nthV us j).ownBlock) : Inn B w' us (mixP k (j + 1) ps) := by
  have hul : us.length = ps.length := h.len.trans (mixP_len k j ps)
  refine ⟨by rw [mixP_len]; exact hul, fun i hi => ?_, h.apart⟩
  rw [mixP_len] at hi
  rw [mixP_nth hi]
  by_cases e : i = j
  · subst e
    rw [if_pos (by omega)]; exact hu
  · have h1 := h.each i (by rw [mixP_len]; exact hi)
    rw [mixP_nth hi] at h1
    have h2 : (if i < j + 1 then marks (k + pl.totTo ps i) (pl.nthP ps i).length else pl.nthP ps i) = (if i < j then marks (k + pl.totTo ps i) (pl.nthP ps i).length else pl.nthP ps i) := by
      by_cases e2 : i < j
      · rw [if_pos e2, if_pos (by omega)]
      · rw [if_neg e2, if_neg (by omega)]
    rw [h2]
    refine own_keep h1 (fun b hb => hg.block b (World.ownsRow.lt h1 b hb).2 (fun e3 => ?_))
    by_cases e4 : i < j
    · exact h.apart i j e4 (by rw [hul]; exact hj) b hb e3.symm
    · exact h.apart j i (by omega) (by rw [hul]; exact hi) b e3.symm hb

end Go.Proofs.Ytckfpneooknifaa
