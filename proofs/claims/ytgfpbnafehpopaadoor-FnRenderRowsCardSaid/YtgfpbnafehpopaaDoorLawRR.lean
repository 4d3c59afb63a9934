/- The walk of FnRenderRows. -/
import Derived.Test.YtgfpbnafehpopaaDoorDrawRR
import Derived.Test.YtgfpbnafehpopaaDoorRend
import Derived.Test.YtgfpbnafehpopaaDoorRendS
import Derived.Test.YtgfpbnafehpopaaDoorReadI
import Derived.Test.YtgfpbnafehpopaaDoorRag
import Derived.Test.YtgfpbnafehpopaaDoorMarkP
import Derived.Test.YtgfpbnafehpopaaDoorMaxI
import Derived.BigQuiet
namespace Go.Proofs.YtgfpbnafehpopaaDoor
open Go.RowKit
set_option maxRecDepth 100000
set_option linter.unusedVariables false

namespace pl
theorem rendR_pos {ps : Gs} {hs : List ByteArray} (h : ¬ (rendR ps hs).length = 0) : rendB ps hs = true := by
  cases hb : rendB ps hs with
  | true => rfl
  | false => rw [rendR_no hb] at h; exact absurd rfl h
theorem rendL_nth {ps : Gs} {hs : List ByteArray} {i : Nat} (h : i < ps.length) : nth (rendL ps hs) i = lineP ps hs i := by
  unfold rendL; exact drawL_nth _ h
theorem rendL_same {ps : Gs} {hs : List ByteArray} (h : rendB ps hs = true) : ∃ z, z ≤ 95 ∧ ∀ i, i < ps.length → (nth (rendL ps hs) i).size = z := by
  by_cases h0 : ps.length = 0
  · exact ⟨0, by omega, fun i hi => by omega⟩
  · refine ⟨totW (fun k => wide (colL ps k)) (colsN ps), ?_, fun i hi => by rw [rendL_nth hi, lineP_size h hi]⟩
    rw [← lineP_size h (i := 0) (by omega)]
    exact lineP_le h (by omega)
def plainTo (ps : Gs) (q i k : Nat) : Prop := (∀ i' k', i' < i → k' < q → plainC (nth (nthP ps i') k') = true) ∧ ∀ k', k' < k → plainC (nth (nthP ps i) k') = true
theorem plainTo_row {ps : Gs} {q i : Nat} (h : plainTo ps q i q) : plainTo ps q (i + 1) 0 :=
  ⟨fun i' k' hi hk => by
    rcases Nat.lt_or_ge i' i with h1 | h1
    · exact h.1 i' k' h1 hk
    · obtain rfl : i' = i := by omega
      exact h.2 k' hk, fun k' hk => absurd hk (by omega)⟩
theorem plainTo_cell {ps : Gs} {q i k : Nat} (h : plainTo ps q i k) (hc : plainC (nth (nthP ps i) k) = true) : plainTo ps q i (k + 1) :=
  ⟨h.1, fun k' hk => by
    rcases Nat.lt_or_ge k' k with h1 | h1
    · exact h.2 k' h1
    · obtain rfl : k' = k := by omega
      exact hc⟩
end pl

set_option maxHeartbeats 8000000 in
theorem fnRenderRows_walk (a : Option Addr) (len cap : Nat) (zs : List Int) (w : World) (hr : IsRow .u8 w a len cap zs) (hmx : MaxI w) :
    Calls Tryd.prog 3 #[.slice a len cap] w fun e w' => e = .returned (.bool true) ∧ Below w.heap.size w w' := by
  have hlen := row_len hr
  have HMX := Lib.hid hmx
  clear hmx
  by_cases hb : 1048576 < len
  · go_enter Tryd.func3, Tryd.ntmps3
    go_wp2
    go_ret
    exact ⟨rfl, Below.refl _ _⟩
  · go_enter Tryd.func3, Tryd.ntmps3
    go_wp2_with fail
    refine (dRenderRows_any a len cap zs _ hr).mono ?_
    rintro e w1 ⟨v, u, ps, hs, rfl, ho, hu, hl, hf, hhl, hhf, hb1⟩
    have HO1 := Lib.hid ho.reads
    have HU1 := Lib.hid hu.reads
    have HB1 := Lib.hid hb1
    have HS := Lib.hid (hf.small (by omega) (by omega))
    have HHL : Hid (hs.length ≤ 1048576) := Lib.hid (by omega)
    have HHS : Hid (∀ i, i < hs.length → (nth hs i).size ≤ 1048576) := Lib.hid (fun i hi => by have := hhf i hi; omega)
    have HL := Lib.hid hl
    have HF := Lib.hid hf
    clear ho hu hb1 hf hl hhl hhf
    have HBD := Lib.hid (pl.rendR_len ps hs)
    obtain ⟨D, HD⟩ : ∃ D, Hid (pl.rendR ps hs = D) := ⟨_, Lib.hid rfl⟩
    rw [HD.out] at HBD
    go_wp2_with fail
    refine (iRender_any ps hs v u _ HO1.out HU1.out HS.out HHL.out HHS.out).mono ?_
    rintro e w2 ⟨v2, rfl, ho2, hb2⟩
    rw [HD.out] at ho2
    have HI2 := Lib.hid ho2.reads
    have HO2 := Lib.hid (HO1.out.below (Nat.le_refl _) hb2)
    have HU2 := Lib.hid (HU1.out.below (Nat.le_refl _) hb2)
    have HB2 := Lib.hid (HB1.out.trans (hb2.mono HB1.out.size))
    clear hb2 ho2
    go_wp2_with fail
    refine (sRender_any ps hs v u _ HO2.out HU2.out HS.out HHL.out HHS.out).mono ?_
    rintro e w3 ⟨v3, rfl, ho3, hb3⟩
    rw [HD.out] at ho3
    have HJ3 := Lib.hid ho3.reads
    have HI3 := Lib.hid (HI2.out.below (Nat.le_refl _) hb3)
    have HO3 := Lib.hid (HO2.out.below (Nat.le_refl _) hb3)
    have HU3 := Lib.hid (HU2.out.below (Nat.le_refl _) hb3)
    have HB3 := Lib.hid (HB2.out.trans (hb3.mono HB2.out.size))
    clear hb3 ho3
    go_wp2_with fail
    refine (equalTexts_selfM D v2 v3 _ HI3.out HJ3.out (by have := HBD.out; omega)).mono ?_
    rintro e w4 ⟨rfl, hb4⟩
    have HI4 := Lib.hid (HI3.out.below (Nat.le_refl _) hb4)
    have HO4 := Lib.hid (HO3.out.below (Nat.le_refl _) hb4)
    have HU4 := Lib.hid (HU3.out.below (Nat.le_refl _) hb4)
    have HB4 := Lib.hid (HB3.out.trans (hb4.mono HB3.out.size))
    clear hb4
    obtain ⟨a2, c2, hv2⟩ := HI4.out.slice
    obtain ⟨m, HM⟩ : ∃ m, Hid (D.length = m) := ⟨_, Lib.hid rfl⟩
    have hm1 : m ≤ 6 := by rw [← HM.out]; exact HBD.out
    rw [HM.out] at hv2
    subst hv2
    by_cases h0 : m = 0
    · have he : ((m : Int) == 0) = true := by rw [h0]; rfl
      clear h0
      go_wp2_with fail
      refine (sRender_any ps hs v u _ HO4.out HU4.out HS.out HHL.out HHS.out).mono ?_
      rintro e w5 ⟨v5, rfl, ho5, hb5⟩
      rw [HD.out] at ho5
      have HJ5 := Lib.hid ho5.reads
      have HI5 := Lib.hid (HI4.out.below (Nat.le_refl _) hb5)
      have HB5 := Lib.hid (HB4.out.trans (hb5.mono HB4.out.size))
      clear hb5 ho5
      go_wp2_with fail
      refine (equalTexts_selfM D _ v5 _ HI5.out HJ5.out (by have := HBD.out; omega)).mono ?_
      rintro e w6 ⟨rfl, hb6⟩
      have HB6 := Lib.hid (HB5.out.trans (hb6.mono HB5.out.size))
      clear hb6
      go_wp2_with fail
      go_ret
      exact ⟨rfl, HB6.out⟩
    · have he : ((m : Int) == 0) = false := beq_eq_false_iff_ne.2 (by omega)
      have hT := pl.rendR_pos (ps := ps) (hs := hs) (by rw [HD.out, HM.out]; exact h0)
      have HT := Lib.hid hT
      have HV := Lib.hid (pl.rendB_parts hT).1
      have HDT : Hid (pl.rendL ps hs = D) := Lib.hid ((pl.rendR_yes hT).symm.trans HD.out)
      have HN : Hid (m = ps.length) := Lib.hid (by rw [← HM.out, ← HDT.out, pl.rendL_len])
      obtain ⟨z, hz95, hz⟩ := pl.rendL_same hT
      have HZ : Hid (∀ i, i < m → (nth D i).size = z) := Lib.hid (fun i hi => by rw [← HDT.out]; exact hz i (by rw [← HN.out]; exact hi))
      have hq5 := pl.vRows_cols HV.out
      obtain ⟨q, HQ⟩ : ∃ q, Hid (pl.colsN ps = q) := ⟨_, Lib.hid rfl⟩
      rw [HQ.out] at hq5
      obtain ⟨ar, cr, hvr⟩ := HO4.out.slice
      rw [← HN.out] at hvr
      subst hvr
      have hmp : 0 < m := by omega
      clear hT h0 hz
      go_wp2_with fail
      go_loopw [6, 7] (fun pv iv wr => ∃ (i : Nat) (P : Bool), i ≤ m ∧ iv = .int .i64 i ∧ pv = .bool P ∧ Hid (P = true → pl.plainTo ps q i 0) ∧ Hid (Below w4.heap.size w4 wr)) (fun _ iv _ => m - (intOf iv).toNat)
      case atStart => exact ⟨0, true, Nat.zero_le _, rfl, rfl, Lib.hid (fun _ => ⟨fun i' k' h => absurd h (by omega), fun k' h => absurd h (by omega)⟩), Lib.hid (Below.refl _ _)⟩
      case round =>
        obtain ⟨i, P, him, rfl, rfl, hP, HBW⟩ := hrel
        by_cases hlt : i < m
        · have hkl : Hid (i < ps.length) := Lib.hid (by rw [← HN.out]; exact hlt)
          obtain ⟨b1, o1, u1, e1, _, hc1, hu1⟩ := HO4.out.at HN.out HBW.out hlt
          subst e1
          have hrow := pl.vRows_row HV.out hkl.out
          have HRL : Hid (q = (pl.nthP ps i).length) := Lib.hid (by rw [← HQ.out]; exact hrow.1.symm)
          have HVC := Lib.hid hrow.2
          obtain ⟨au, cu, hvu⟩ := hu1.1.slice
          rw [← HRL.out] at hvu
          subst hvu
          have HU1r := Lib.hid hu1.1
          obtain ⟨b5, o5, e5, hy⟩ := HI4.out.at HM.out.symm HBW.out hlt
          subst e5
          obtain ⟨b6, o6, e6, hy0⟩ := HI4.out.at HM.out.symm HBW.out hmp
          simp only [Option.some.injEq, Addr.mk.injEq, and_true] at e6
          obtain ⟨rfl, rfl⟩ := e6
          rw [Nat.add_zero] at hy0
          have hs1 := HZ.out i hlt
          have hs2 := HZ.out 0 hmp
          obtain ⟨y, HY⟩ : ∃ y, Hid (nth D i = y) := ⟨_, Lib.hid rfl⟩
          obtain ⟨y0, HY0⟩ : ∃ y, Hid (nth D 0 = y) := ⟨_, Lib.hid rfl⟩
          rw [HY.out] at hy hs1
          rw [HY0.out] at hy0 hs2
          have hP2 : Hid (P = true → pl.plainTo ps q i 0) := hP
          clear hu1 hrow hP
          go_wp2_with fail
          go_loop [6, 8] (fun pv kv => ∃ (k : Nat) (P : Bool), k ≤ q ∧ kv = .int .i64 k ∧ pv = .bool P ∧ Hid (P = true → pl.plainTo ps q i k)) (fun _ kv => q - (intOf kv).toNat)
          case atStart => exact ⟨0, P, Nat.zero_le _, rfl, rfl, hP2⟩
          case round =>
            obtain ⟨k, P, hkq, rfl, rfl, hPk⟩ := hrel
            by_cases hkl2 : k < q
            · obtain ⟨b2, o2, e2, hx⟩ := HU1r.out.at HRL.out (Below.refl _ _) hkl2
              subst e2
              have hxs := pl.vCells_size HVC.out k (by rw [← HRL.out]; exact hkl2)
              obtain ⟨x, HX⟩ : ∃ x, Hid (nth (pl.nthP ps i) k = x) := ⟨_, Lib.hid rfl⟩
              rw [HX.out] at hx hxs
              cases P with
              | false =>
                go_wp2
                go_round
                case rel => exact ⟨k + 1, false, by omega, by go_num, rfl, Lib.hid (fun h => by cases h)⟩
                case measure => simp [intOf]; omega
              | true =>
                have hPT := Lib.hid (hPk.out rfl)
                go_wp2_with fail
                refine (hasByte_at x 124 124 rfl _ (by omega)).mono ?_
                rintro e w' ⟨rfl, rfl⟩
                cases hcc : pl.hasC x 124 with
                | true =>
                  clear hcc
                  go_wp2
                  go_round
                  case rel => exact ⟨k + 1, false, by omega, by go_num, rfl, Lib.hid (fun h => by cases h)⟩
                  case measure => simp [intOf]; omega
                | false =>
                  have HCC := Lib.hid hcc
                  clear hcc
                  go_wp2_with fail
                  refine (ragged_any x _ (by omega)).mono ?_
                  rintro e w' ⟨rfl, rfl⟩
                  cases hgg : pl.raggedL x.data.toList with
                  | true =>
                    clear hgg
                    go_wp2
                    go_round
                    case rel => exact ⟨k + 1, false, by omega, by go_num, rfl, Lib.hid (fun h => by cases h)⟩
                    case measure => simp [intOf]; omega
                  | false =>
                    have hN := Lib.hid (pl.plainTo_cell hPT.out (by rw [HX.out]; exact pl.plainC_of HCC.out hgg))
                    clear hgg
                    go_wp2
                    go_round
                    case rel => exact ⟨k + 1, true, by omega, by go_num, rfl, Lib.hid (fun _ => hN.out)⟩
                    case measure => simp [intOf]; omega
            · obtain rfl : k = q := by omega
              have hNR : Hid (P = true → pl.plainTo ps k (i + 1) 0) := Lib.hid (fun h => pl.plainTo_row (hPk.out h))
              have hsz : (y.size : Int) = (y0.size : Int) := by omega
              clear hP2 hPk
              go_wp2_with fail
              go_quiet (fail)
              go_wp2
              go_roundw
              case rel => exact ⟨i + 1, P, by omega, by go_num, rfl, hNR, Lib.hid (HBW.out.trans below_drewN)⟩
              case measure => simp [intOf]; omega
        · obtain rfl : i = m := by omega
          have HI5 := Lib.hid (HI4.out.below (Nat.le_refl _) HBW.out)
          have HO5 := Lib.hid (HO4.out.below (Nat.le_refl _) HBW.out)
          have HB5 := Lib.hid (HB4.out.trans (HBW.out.mono HB4.out.size))
          have HMX5 := Lib.hid (HMX.out.below (Nat.le_refl _) HB5.out)
          go_wp2_with fail
          refine (iReadRows_any D _ _ HI5.out (by rw [HM.out]; omega) (fun j hj => by have := HZ.out j (by rw [← HM.out]; exact hj); omega) HMX5.out).mono ?_
          rintro e w6 ⟨v6, rfl, ho6, hb6⟩
          have HB6 := Lib.hid (HB5.out.trans (hb6.mono HB5.out.size))
          have HO6 := Lib.hid (HO5.out.below (Nat.le_refl _) hb6)
          clear hb6
          cases P with
          | false =>
            obtain ⟨R, HR⟩ : ∃ R, Hid (pl.readB D = R) := ⟨_, Lib.hid rfl⟩
            rw [HR.out]
            clear ho6
            go_wp2_with fail
            go_ret
            exact ⟨rfl, HB6.out⟩
          | true =>
            have hrt := pl.rend_read HT.out (fun i' k' hi hk => (hP.out rfl).1 i' k' (by rw [HN.out]; exact hi) (by rw [← HQ.out]; exact hk))
            rw [HDT.out] at hrt
            rw [pl.readR_yes hrt.1, hrt.2] at ho6
            rw [hrt.1]
            have HK6 := Lib.hid ho6.reads
            clear hrt ho6
            go_wp2_with fail
            refine (equalRows_same ps v6 _ _ HK6.out HO6.out (by have := HL.out; omega) (fun k hk => by have := (HF.out k hk).1; omega)).mono ?_
            rintro e w7 ⟨rfl, hb7⟩
            have HB7 := Lib.hid (HB6.out.trans (hb7.mono HB6.out.size))
            clear hb7
            go_wp2_with fail
            go_ret
            exact ⟨rfl, HB7.out⟩
end Go.Proofs.YtgfpbnafehpopaaDoor
