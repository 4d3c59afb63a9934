/- The walk of FnTurnChanges. -/
import Derived.Test.YtckfpneooknifaaDrawCh
import Derived.Test.YtckfpneooknifaaTurnC
import Derived.Test.YtckfpneooknifaaEqC
namespace Go.Proofs.Ytckfpneooknifaa
open Go.RowKit
set_option maxRecDepth 100000
set_option linter.unusedVariables false

namespace pl
theorem backR_short {cs : List Ch} (h : ShortC cs) : ShortC (backR cs) := by
  unfold backR
  split
  · intro i hi
    rw [List.length_map] at hi
    rw [nthH_eq (by rw [List.length_map]; exact hi), List.getElem_map]
    have := h i hi
    rw [nthH_eq hi] at this
    exact this
  · intro i hi; simp at hi
theorem ShortC.max {cs : List Ch} (h : ShortC cs) : ∀ i, i < cs.length → (nthH cs i).2.size ≤ maxLen := fun i hi => by have := h i hi; unfold maxLen; omega
end pl
theorem turn_iff {cs : List pl.Ch} (h : ¬ (pl.backR cs).length = 0) : pl.backR (pl.backR cs) = cs ∧ (pl.backR cs).length = cs.length := by
  cases hv : pl.vCh cs with
  | false => rw [pl.backR_no hv] at h; exact absurd rfl h
  | true => exact ⟨pl.backR_twice hv, by rw [pl.backR_yes hv, List.length_map]⟩

set_option maxHeartbeats 4000000 in
theorem fnTurnChanges_walk (a : Option Addr) (len cap : Nat) (zs : List Int) (w : World) (hr : IsRow .u8 w a len cap zs) :
    Calls Try.prog 6 #[.slice a len cap] w fun e w' => e = .returned (.bool true) ∧ Below w.heap.size w w' := by
  have hlen := row_len hr
  by_cases hb : 1048576 < len
  · go_enter Try.func6, Try.ntmps6
    go_wp2
    go_ret
    exact ⟨rfl, Below.refl _ _⟩
  · go_enter Try.func6, Try.ntmps6
    go_wp2_with fail
    refine (dTurnChanges_any a len cap zs _ hr).mono ?_
    rintro e w1 ⟨v, cs, rfl, hq, hl, hs, hb1⟩
    have HQ := Lib.hid hq
    have HB := Lib.hid hb1
    have HS := Lib.hid hs
    obtain ⟨av, cv, rfl⟩ := hq.slice
    obtain ⟨m, HM⟩ : ∃ m, Hid (m = cs.length) := ⟨_, Lib.hid rfl⟩
    rw [← HM.out] at HQ hl ⊢
    clear hq hb1 hs
    go_wp2_with fail
    refine (iTurnChanges_any cs _ _ HQ.out HS.out.max).mono ?_
    rintro e w2 ⟨u, rfl, ho, hb2⟩
    have HU := Lib.hid ho.reads
    have HQ2 := Lib.hid (HQ.out.below (Nat.le_refl _) hb2)
    have HB2 := Lib.hid (HB.out.trans (hb2.mono HB.out.size))
    clear ho hb2
    obtain ⟨bs, HBS⟩ : ∃ bs, Hid (pl.backR cs = bs) := ⟨_, Lib.hid rfl⟩
    have HSB : Hid (pl.ShortC bs) := Lib.hid (by rw [← HBS.out]; exact pl.backR_short HS.out)
    have HTI := Lib.hid (turn_iff (cs := cs))
    have hbl : bs.length ≤ 40 := by rw [← HBS.out]; exact pl.backR_len cs
    rw [HBS.out] at HU HTI
    obtain ⟨au, cu, rfl⟩ := HU.out.slice
    obtain ⟨k, HK⟩ : ∃ k, Hid (k = bs.length) := ⟨_, Lib.hid rfl⟩
    rw [← HK.out] at HU HTI hbl ⊢
    go_wp2_with fail
    refine (sTurnChanges_any cs _ _ HQ2.out (by rw [← HM.out]; unfold maxLen; omega) HS.out.max).mono ?_
    rintro e w3 ⟨x, rfl, ho, hb3⟩
    rw [HBS.out] at ho
    have HX := Lib.hid ho.reads
    have HU3 := Lib.hid (HU.out.below (Nat.le_refl _) hb3)
    have HQ3 := Lib.hid (HQ2.out.below (Nat.le_refl _) hb3)
    have HB3 := Lib.hid (HB2.out.trans (hb3.mono HB2.out.size))
    clear ho hb3
    go_wp2_with fail
    refine (equalChanges_same bs _ _ _ HU3.out HX.out (by rw [← HK.out]; omega)).mono ?_
    rintro e w4 ⟨rfl, hb4⟩
    have HU4 := Lib.hid (HU3.out.below (Nat.le_refl _) hb4)
    have HQ4 := Lib.hid (HQ3.out.below (Nat.le_refl _) hb4)
    have HB4 := Lib.hid (HB3.out.trans (hb4.mono HB3.out.size))
    clear hb4
    by_cases h0 : k = 0
    · subst h0
      go_wp2_with fail
      refine (sTurnChanges_any cs _ _ HQ4.out (by rw [← HM.out]; unfold maxLen; omega) HS.out.max).mono ?_
      rintro e w5 ⟨y, rfl, ho, hb5⟩
      rw [HBS.out] at ho
      have HY := Lib.hid ho.reads
      have HU5 := Lib.hid (HU4.out.below (Nat.le_refl _) hb5)
      have HB5 := Lib.hid (HB4.out.trans (hb5.mono HB4.out.size))
      clear ho hb5
      go_wp2_with fail
      refine (equalChanges_same bs _ _ _ HU5.out HY.out (by rw [← HK.out]; omega)).mono ?_
      rintro e w6 ⟨rfl, hb6⟩
      have HB6 := Lib.hid (HB5.out.trans (hb6.mono HB5.out.size))
      clear hb6
      go_wp2_with fail
      go_ret
      exact ⟨rfl, HB6.out⟩
    · have h0d : ((k : Int) == 0) = false := by simp [h0]
      have HT := Lib.hid (HTI.out h0)
      have HKM : Hid (k = m) := Lib.hid (by rw [HT.out.2, HM.out])
      go_wp2_with fail
      refine (iTurnChanges_any bs _ _ HU4.out HSB.out.max).mono ?_
      rintro e w5 ⟨y, rfl, ho, hb5⟩
      rw [HT.out.1] at ho
      have HY := Lib.hid ho.reads
      have HQ5 := Lib.hid (HQ4.out.below (Nat.le_refl _) hb5)
      have HB5 := Lib.hid (HB4.out.trans (hb5.mono HB4.out.size))
      clear ho hb5
      go_wp2_with fail
      refine (equalChanges_same cs _ _ _ HY.out HQ5.out (by rw [← HM.out]; omega)).mono ?_
      rintro e w6 ⟨rfl, hb6⟩
      have HB6 := Lib.hid (HB5.out.trans (hb6.mono HB5.out.size))
      clear hb6
      have hkm := HKM.out
      subst hkm
      go_wp2_with fail
      go_ret
      exact ⟨rfl, HB6.out⟩
end Go.Proofs.Ytckfpneooknifaa
