/- The walk of FnTurnRows. -/
import Derived.Test.YtgfpbnafehpopaaDrawTb
import Derived.Test.YtgfpbnafehpopaaTurn
namespace Go.Proofs.Ytgfpbnafehpopaa
open Go.RowKit
set_option maxRecDepth 100000
set_option linter.unusedVariables false

namespace pl
theorem turnR_pos {ps : Gs} (h : ¬ (turnR ps).length = 0) : turnB ps = true := by
  cases hb : turnB ps with
  | true => rfl
  | false => rw [turnR_no hb] at h; exact absurd rfl h
end pl
theorem turn_small {ps : pl.Gs} (h : pl.turnB ps = true) : Small (pl.turnL ps) := by
  obtain ⟨hv, h1, h5⟩ := pl.turnB_parts h
  have hc := pl.vRows_cols hv
  refine ⟨by rw [pl.turnL_len]; omega, fun k hk => ?_, fun k hk i hi => ?_⟩
  · rw [pl.turnL_len] at hk
    rw [pl.turnL_nth hk, pl.colL_len]; omega
  · rw [pl.turnL_len] at hk
    rw [pl.turnL_nth hk] at hi ⊢
    rw [pl.colL_len] at hi
    rw [pl.colL_nth hi]
    have := pl.colL_size hv hk i hi
    omega

set_option maxHeartbeats 8000000 in
theorem fnTurnRows_walk (a : Option Addr) (len cap : Nat) (zs : List Int) (w : World) (hr : IsRow .u8 w a len cap zs) :
    Calls Try.prog 6 #[.slice a len cap] w fun e w' => e = .returned (.bool true) ∧ Below w.heap.size w w' := by
  have hlen := row_len hr
  by_cases hb : 1048576 < len
  · go_enter Try.func6, Try.ntmps6
    go_wp2
    go_ret
    exact ⟨rfl, Below.refl _ _⟩
  · go_enter Try.func6, Try.ntmps6
    go_wp2_with fail
    refine (dTurnRows_any a len cap zs _ hr).mono ?_
    rintro e w1 ⟨v, ps, rfl, ho, hl, hf, hb1⟩
    have HO1 := Lib.hid ho.reads
    have HB1 := Lib.hid hb1
    have HS := Lib.hid (hf.small (by omega) (by omega))
    have HL := Lib.hid hl
    have HF := Lib.hid hf
    clear ho hb1 hf hl
    have HBD := Lib.hid (pl.turnR_bd ps)
    obtain ⟨D, HD⟩ : ∃ D, Hid (pl.turnR ps = D) := ⟨_, Lib.hid rfl⟩
    rw [HD.out] at HBD
    go_wp2_with fail
    refine (iTurnRows_any ps v _ HO1.out HS.out).mono ?_
    rintro e w2 ⟨v2, rfl, ho2, hb2⟩
    rw [HD.out] at ho2
    have HI2 := Lib.hid ho2.reads
    have HO2 := Lib.hid (HO1.out.below (Nat.le_refl _) hb2)
    have HB2 := Lib.hid (HB1.out.trans (hb2.mono HB1.out.size))
    clear hb2 ho2
    go_wp2_with fail
    refine (sTurnRows_any ps v _ HO2.out HS.out).mono ?_
    rintro e w3 ⟨v3, rfl, ho3, hb3⟩
    rw [HD.out] at ho3
    have HJ3 := Lib.hid ho3.reads
    have HI3 := Lib.hid (HI2.out.below (Nat.le_refl _) hb3)
    have HO3 := Lib.hid (HO2.out.below (Nat.le_refl _) hb3)
    have HB3 := Lib.hid (HB2.out.trans (hb3.mono HB2.out.size))
    clear hb3 ho3
    go_wp2_with fail
    refine (equalRows_same D v2 v3 _ HI3.out HJ3.out (by have := HBD.out.1; omega) (fun k hk => by have := HBD.out.2.2 k hk; omega)).mono ?_
    rintro e w4 ⟨rfl, hb4⟩
    have HI4 := Lib.hid (HI3.out.below (Nat.le_refl _) hb4)
    have HO4 := Lib.hid (HO3.out.below (Nat.le_refl _) hb4)
    have HB4 := Lib.hid (HB3.out.trans (hb4.mono HB3.out.size))
    clear hb4
    obtain ⟨a2, c2, hv2⟩ := HI4.out.slice
    obtain ⟨m, HM⟩ : ∃ m, Hid (D.length = m) := ⟨_, Lib.hid rfl⟩
    have hm1 : m ≤ 1000 := by rw [← HM.out]; exact HBD.out.1
    rw [HM.out] at hv2
    subst hv2
    by_cases h0 : m = 0
    · have he : ((m : Int) == 0) = true := by rw [h0]; rfl
      clear h0
      go_wp2_with fail
      refine (sTurnRows_any ps v _ HO4.out HS.out).mono ?_
      rintro e w5 ⟨v5, rfl, ho5, hb5⟩
      rw [HD.out] at ho5
      have HJ5 := Lib.hid ho5.reads
      have HI5 := Lib.hid (HI4.out.below (Nat.le_refl _) hb5)
      have HB5 := Lib.hid (HB4.out.trans (hb5.mono HB4.out.size))
      clear hb5 ho5
      go_wp2_with fail
      refine (equalRows_same D _ v5 _ HI5.out HJ5.out (by have := HBD.out.1; omega) (fun k hk => by have := HBD.out.2.2 k hk; omega)).mono ?_
      rintro e w6 ⟨rfl, hb6⟩
      have HB6 := Lib.hid (HB5.out.trans (hb6.mono HB5.out.size))
      clear hb6
      go_wp2_with fail
      go_ret
      exact ⟨rfl, HB6.out⟩
    · have he : ((m : Int) == 0) = false := beq_eq_false_iff_ne.2 (by omega)
      have hT := pl.turnR_pos (ps := ps) (by rw [HD.out, HM.out]; exact h0)
      have HT := Lib.hid hT
      have HV := Lib.hid (pl.turnB_parts hT).1
      have hn0 := (pl.turnB_parts hT).2.1
      have HDT : Hid (pl.turnL ps = D) := Lib.hid ((pl.turnR_yes hT).symm.trans HD.out)
      have HSD : Hid (Small D) := Lib.hid (by rw [← HDT.out]; exact turn_small hT)
      have HBK : Hid (pl.turnR D = ps) := Lib.hid (by rw [← HDT.out, pl.turnR_yes (pl.turn_valid hT), pl.turn_turn hT])
      have HMC : Hid (pl.colsN ps = m) := Lib.hid (by rw [← HM.out, ← HDT.out, pl.turnL_len])
      obtain ⟨n, HN⟩ : ∃ n, Hid (n = ps.length) := ⟨_, Lib.hid rfl⟩
      obtain ⟨ar, cr, hvr⟩ := HO4.out.slice
      rw [← HN.out] at hvr hn0
      subst hvr
      clear hT h0
      go_wp2_with fail
      refine (iTurnRows_any D _ _ HI4.out HSD.out).mono ?_
      rintro e w5 ⟨v5, rfl, ho5, hb5⟩
      rw [HBK.out] at ho5
      have HJ5 := Lib.hid ho5.reads
      have HO5 := Lib.hid (HO4.out.below (Nat.le_refl _) hb5)
      have HB5 := Lib.hid (HB4.out.trans (hb5.mono HB4.out.size))
      clear hb5 ho5
      go_wp2_with fail
      refine (equalRows_same ps v5 _ _ HJ5.out HO5.out (by have := HL.out; omega) (fun k hk => by have := (HF.out k hk).1; omega)).mono ?_
      rintro e w6 ⟨rfl, hb6⟩
      have HO6 := Lib.hid (HO5.out.below (Nat.le_refl _) hb6)
      have HB6 := Lib.hid (HB5.out.trans (hb6.mono HB5.out.size))
      clear hb6
      obtain ⟨b1, o1, u, rfl, hb1, hc1, hu⟩ := HO6.out.at HN.out (Below.refl _ _) hn0
      obtain ⟨au, cu, hvu⟩ := hu.1.slice
      have hr1 : (pl.nthP ps 0).length = m := HMC.out
      rw [hr1] at hvu
      subst hvu
      rw [Nat.add_zero] at hc1
      clear hu hr1
      go_wp2_with fail
      go_ret
      exact ⟨rfl, HB6.out⟩
end Go.Proofs.Ytgfpbnafehpopaa
