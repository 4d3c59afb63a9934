/- The walk of FnMatchForm. -/
import Derived.Test.YtadlelcckalcoaaPlainMd
import Derived.Test.YtadlelcckalcoaaDrawMf
import Derived.Test.YtadlelcckalcoaaMatchF
import Derived.Test.YtadlelcckalcoaaEqF
import Derived.Test.YtadlelcckalcoaaFillI
import Derived.Test.YtadlelcckalcoaaMaxI
namespace Go.Proofs.Ytadlelcckalcoaa
open Go.RowKit
set_option maxRecDepth 100000
set_option linter.unusedVariables false

set_option maxHeartbeats 4000000 in
theorem fnMatchForm_walk (a : Option Addr) (len cap : Nat) (zs : List Int) (w : World) (hr : IsRow .u8 w a len cap zs) (hmx : MaxI w) :
    Calls Try.prog 4 #[.slice a len cap] w fun e w' => e = .returned (.bool true) ∧ Below w.heap.size w w' := by
  have hlen := row_len hr
  have HMX := Lib.hid hmx
  clear hmx
  by_cases hb : 1048576 < len
  · go_enter Try.func4, Try.ntmps4
    go_wp2
    go_ret
    exact ⟨rfl, Below.refl _ _⟩
  · go_enter Try.func4, Try.ntmps4
    go_wp2_with fail
    refine (dMatchForm_any a len cap zs _ hr).mono ?_
    rintro e w1 ⟨s, t, rfl, hs, ht, hb1⟩
    have HB1 := Lib.hid hb1
    clear hb1
    obtain ⟨D, HD⟩ : ∃ D, Hid (pl.matchD s t = D) := ⟨_, Lib.hid rfl⟩
    have HDL : Hid (D.length ≤ 1000) := Lib.hid (by rw [← HD.out]; exact pl.matchD_len s t)
    obtain ⟨G, HG⟩ : ∃ G, Hid (pl.matchG s t = G) := ⟨_, Lib.hid rfl⟩
    go_wp2_with fail
    refine (iMatchForm_any s t _ (by unfold maxLen; omega) (by unfold maxLen; omega) (HMX.out.below (Nat.le_refl _) HB1.out)).mono ?_
    rintro e w2 ⟨u, rfl, ho, hb2⟩
    rw [HG.out]
    rw [HD.out] at ho
    have HU := Lib.hid ho.reads
    have HB2 := Lib.hid (HB1.out.trans (hb2.mono HB1.out.size))
    obtain ⟨au, cu, rfl⟩ := ho.reads.slice
    obtain ⟨m, HM⟩ : ∃ m, Hid (m = D.length) := ⟨_, Lib.hid rfl⟩
    rw [← HM.out] at HU HDL ⊢
    clear ho hb2
    go_wp2_with fail
    refine (sMatchForm_any s t _ (by omega) (by unfold maxLen; omega)).mono ?_
    rintro e w3 ⟨x, rfl, ho, hb3⟩
    rw [HG.out]
    rw [HD.out] at ho
    have HX := Lib.hid ho.reads
    have HU3 := Lib.hid (HU.out.below (Nat.le_refl _) hb3)
    have HB3 := Lib.hid (HB2.out.trans (hb3.mono HB2.out.size))
    clear ho hb3
    cases hgv : G with
    | false =>
      clear hgv
      go_wp2_with fail
      refine (equalFills_same D _ _ _ HU3.out HX.out (by have := HDL.out; have := HM.out; omega)).mono ?_
      rintro e w4 ⟨rfl, hb4⟩
      have HU4 := Lib.hid (HU3.out.below (Nat.le_refl _) hb4)
      have HX4 := Lib.hid (HX.out.below (Nat.le_refl _) hb4)
      have HB4 := Lib.hid (HB3.out.trans (hb4.mono HB3.out.size))
      clear hb4
      go_wp2_with fail
      refine (equalFills_same D _ _ _ HU4.out HX4.out (by have := HDL.out; have := HM.out; omega)).mono ?_
      rintro e w5 ⟨rfl, hb5⟩
      have HB5 := Lib.hid (HB4.out.trans (hb5.mono HB4.out.size))
      clear hb5
      go_wp2_with fail
      go_ret
      exact ⟨rfl, HB5.out⟩
    | true =>
      have hR : pl.matchR s t = some D := by
        cases h : pl.matchR s t with
        | none => have := (pl.match_none h).2; rw [HG.out, hgv] at this; cases this
        | some gs => have := (pl.match_yes h).1; rw [HD.out] at this; rw [this]
      have HK := Lib.hid (pl.match_fill hR)
      clear hR hgv
      obtain ⟨q, HQ⟩ : ∃ q, Hid ((pl.holesR s).length = q) := ⟨_, Lib.hid rfl⟩
      have HMQ : Hid (m = q) := Lib.hid (by rw [HM.out, HK.out.2.1, HQ.out])
      go_wp2_with fail
      refine (equalFills_same D _ _ _ HU3.out HX.out (by have := HDL.out; have := HM.out; omega)).mono ?_
      rintro e w4 ⟨rfl, hb4⟩
      have HU4 := Lib.hid (HU3.out.below (Nat.le_refl _) hb4)
      have HB4 := Lib.hid (HB3.out.trans (hb4.mono HB3.out.size))
      clear hb4
      go_wp2_with fail
      refine (iFillForm_any s D _ _ (by unfold maxLen; omega) (HMX.out.below (Nat.le_refl _) HB4.out) HU4.out (by have := HDL.out; have := HM.out; omega) (pl.match_sizes HK.out.1)).mono ?_
      rintro e w5 ⟨hb5, o5, ho5, hres⟩
      have HB5 := Lib.hid (HB4.out.trans (hb5.mono HB4.out.size))
      obtain rfl : o5 = some t.data.toList := pl.FillIs.uniq ho5 HK.out.1
      clear hb5 ho5
      rcases hres with ⟨z, hz, rfl⟩ | ⟨hz, _⟩
      · injection hz with hz
        subst hz
        rw [pl.bs_self]
        have htt : (t.toList == t.toList) = true := by simp
        go_wp2_with fail
        refine (iHolesOf_any s _ (by unfold maxLen; omega) (HMX.out.below (Nat.le_refl _) HB5.out)).mono ?_
        rintro e w6 ⟨y, rfl, ho, hb6⟩
        have HB6 := Lib.hid (HB5.out.trans (hb6.mono HB5.out.size))
        obtain ⟨ay, cy, rfl⟩ := ho.reads.slice
        rw [HQ.out]
        have hmq := HMQ.out
        clear ho hb6
        subst hmq
        go_wp2_with fail
        go_ret
        exact ⟨rfl, HB6.out⟩
      · cases hz
end Go.Proofs.Ytadlelcckalcoaa
