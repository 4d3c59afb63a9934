/- The walk of FnFlowLines. -/
import Derived.Test.YtoeejepamlnkkaaDrawFl
import Derived.Test.YtoeejepamlnkkaaFlowB
import Derived.Test.YtoeejepamlnkkaaAllG
import Derived.Test.YtoeejepamlnkkaaLawV
import Derived.Test.YtoeejepamlnkkaaMarkP
namespace Go.Proofs.Ytoeejepamlnkkaa
open Go.RowKit
set_option maxRecDepth 100000

set_option maxHeartbeats 4000000 in
theorem fnFlowLines_walk (a : Option Addr) (len cap : Nat) (zs : List Int) (w : World) (hr : IsRow .u8 w a len cap zs) :
    Calls Try.prog 5 #[.slice a len cap] w fun e w' => e = .returned (.bool true) ∧ Below w.heap.size w w' := by
  have hlen := row_len hr
  by_cases hb : 1048576 < len
  · go_enter Try.func5, Try.ntmps5
    go_wp2
    go_ret
    exact ⟨rfl, Below.refl _ _⟩
  · go_enter Try.func5, Try.ntmps5
    go_wp2_with fail
    refine (dFlowLines_any a len cap zs _ hr).mono ?_
    rintro e w1 ⟨v, ps, x, rfl, ho, hl, hf, ⟨hx0, hx1⟩, hb1⟩
    have HL4 := Lib.hid hl
    have HFP := Lib.hid hf
    have HS : Hid (Small ps) := Lib.hid ⟨by omega, fun k hk => by have := (hf k hk).1; omega, fun k hk i hi => by have := (hf k hk).2 i hi; omega⟩
    have HO1 := Lib.hid ho
    have HB1 := Lib.hid hb1
    clear ho hb1 hf hl
    obtain ⟨O, HO⟩ : ∃ O, Hid (pl.flowR ps x = O) := ⟨_, Lib.hid rfl⟩
    obtain ⟨K, HK⟩ : ∃ K, Hid (pl.flowB ps x = K) := ⟨_, Lib.hid rfl⟩
    have hOl : Hid (O.length ≤ 20) := Lib.hid (by rw [← HO.out]; exact pl.flowR_len ps x)
    go_wp2_with fail
    refine (iFlow_any ps x _ _ HO1.out.reads HS.out).mono ?_
    rintro e w2 ⟨v2, rfl, ho2, hb2⟩
    rw [HO.out] at ho2
    rw [HK.out]
    have HP2 := Lib.hid ho2
    have HO2 := Lib.hid (HO1.out.below (Nat.le_refl _) hb2)
    have HB2 := Lib.hid (HB1.out.trans (hb2.mono HB1.out.size))
    clear ho2 hb2
    go_wp2_with fail
    refine (sFlow_any ps x _ _ HO2.out.reads HS.out).mono ?_
    rintro e w3 ⟨v3, rfl, ho3, hb3⟩
    rw [HO.out] at ho3
    rw [HK.out]
    have HQ3 := Lib.hid ho3
    have HP3 := Lib.hid (HP2.out.below (Nat.le_refl _) hb3)
    have HO3 := Lib.hid (HO2.out.below (Nat.le_refl _) hb3)
    have HB3 := Lib.hid (HB2.out.trans (hb3.mono HB2.out.size))
    clear ho3 hb3
    go_wp2_with fail
    refine (equalTexts_self O v2 v3 _ HP3.out.reads HQ3.out.reads (by have := hOl.out; omega)).mono ?_
    rintro e w4 ⟨rfl, hb4⟩
    have HQ4 := Lib.hid (HQ3.out.below (Nat.le_refl _) hb4)
    have HP4 := Lib.hid (HP3.out.below (Nat.le_refl _) hb4)
    have HO4 := Lib.hid (HO3.out.below (Nat.le_refl _) hb4)
    have HB4 := Lib.hid (HB3.out.trans (hb4.mono HB3.out.size))
    clear hb4
    cases K with
    | false =>
      go_wp2_with fail
      refine (equalTexts_self O v2 v3 _ HP4.out.reads HQ4.out.reads (by have := hOl.out; omega)).mono ?_
      rintro e w5 ⟨rfl, hb5⟩
      have HB5 := Lib.hid (HB4.out.trans (hb5.mono HB4.out.size))
      clear hb5
      go_wp2_with fail
      go_ret
      exact ⟨rfl, HB5.out⟩
    | true =>
      have hft := pl.flow_told HK.out
      rw [HO.out] at hft
      have HU := Lib.hid hft.1
      have HZ := Lib.hid hft.2
      clear hft
      go_wp2_with fail
      refine (iUnflow_any O v2 _ HP4.out.reads (by have := hOl.out; unfold maxLen; omega) (fun i hi => by have := HZ.out i hi; unfold maxLen; omega)).mono ?_
      rintro e w5 ⟨v5, rfl, ho5, hb5⟩
      rw [HU.out] at ho5
      have HR5 := Lib.hid ho5
      have HP5 := Lib.hid (HP4.out.below (Nat.le_refl _) hb5)
      have HO5 := Lib.hid (HO4.out.below (Nat.le_refl _) hb5)
      have HB5 := Lib.hid (HB4.out.trans (hb5.mono HB4.out.size))
      clear ho5 hb5
      go_wp2_with fail
      refine (equalRows_same ps v5 v _ HR5.out.reads HO5.out.reads (by have := HL4.out; omega) (fun k hk => by have := (HFP.out k hk).1; omega)).mono ?_
      rintro e w6 ⟨rfl, hb6⟩
      have HP6 := Lib.hid (HP5.out.below (Nat.le_refl _) hb6)
      have HB6 := Lib.hid (HB5.out.trans (hb6.mono HB5.out.size))
      clear hb6
      go_wp2_with fail
      refine (longestG_any O (x + 1) v2 _ HP6.out.reads (by have := hOl.out; omega) (by omega) HZ.out).mono ?_
      rintro e w7 ⟨⟨m, rfl, hm⟩, rfl⟩
      go_wp2_with fail
      go_ret
      exact ⟨rfl, HB6.out⟩
end Go.Proofs.Ytoeejepamlnkkaa
