/- The walk of FnColumnWidths. -/
import Derived.Test.YtgfpbnafehpopaaDrawTb
import Derived.Test.YtgfpbnafehpopaaColS
namespace Go.Proofs.Ytgfpbnafehpopaa
open Go.RowKit
set_option maxRecDepth 100000
set_option linter.unusedVariables false

namespace pl
theorem wideTo_met {l : List ByteArray} : ∀ k, 0 < k → ∃ i, i < k ∧ (nth l i).size = wideTo l k
  | 0, h => absurd h (by omega)
  | k + 1, _ => by
    rw [wideTo_succ]
    by_cases h0 : k = 0
    · subst h0
      exact ⟨0, by omega, by simp [wideTo]⟩
    · obtain ⟨i, hi, he⟩ := wideTo_met (l := l) k (by omega)
      by_cases hle : (nth l k).size ≤ wideTo l k
      · exact ⟨i, by omega, by rw [he]; omega⟩
      · exact ⟨k, by omega, by omega⟩
def Met (l : List ByteArray) (W i : Nat) (b : Bool) : Prop := b = true ↔ ∃ t, t < i ∧ (nth l t).size = W
theorem colR_pos {ps : Gs} (h : ¬ (colR ps).length = 0) : vRows ps = true ∧ (colR ps).length = colsN ps ∧ 0 < ps.length := by
  by_cases hv : vRows ps = true
  · refine ⟨hv, by rw [colR_yes hv, widthsI_len], ?_⟩
    apply Nat.pos_of_ne_zero
    intro h0
    apply h
    rw [colR_yes hv, widthsI_len, colsN_nil h0]
  · rw [colR_no (by simpa using hv)] at h
    exact absurd rfl h
end pl

set_option maxHeartbeats 8000000 in
theorem fnColumnWidths_walk (a : Option Addr) (len cap : Nat) (zs : List Int) (w : World) (hr : IsRow .u8 w a len cap zs) :
    Calls Try.prog 5 #[.slice a len cap] w fun e w' => e = .returned (.bool true) ∧ Below w.heap.size w w' := by
  have hlen := row_len hr
  by_cases hb : 1048576 < len
  · go_enter Try.func5, Try.ntmps5
    go_wp2
    go_ret
    exact ⟨rfl, Below.refl _ _⟩
  · go_enter Try.func5, Try.ntmps5
    go_wp2_with fail
    refine (dColumnWidths_any a len cap zs _ hr).mono ?_
    rintro e w1 ⟨v, ps, rfl, ho, hl, hf, hb1⟩
    have HO1 := Lib.hid ho.reads
    have HB1 := Lib.hid hb1
    have HS := Lib.hid (hf.small (by omega) (by omega))
    have HL := Lib.hid hl
    clear ho hb1 hf hl
    have hcl := pl.colR_len ps
    obtain ⟨D, HD⟩ : ∃ D, Hid (pl.colR ps = D) := ⟨_, Lib.hid rfl⟩
    rw [HD.out] at hcl
    go_wp2_with fail
    refine (iColumnWidths_any ps v _ HO1.out HS.out).mono ?_
    rintro e w2 ⟨v2, rfl, ho2, hb2⟩
    rw [HD.out] at ho2
    have HI2 := Lib.hid (ints_reads ho2 rfl)
    have HO2 := Lib.hid (HO1.out.below (Nat.le_refl _) hb2)
    have HB2 := Lib.hid (HB1.out.trans (hb2.mono HB1.out.size))
    clear hb2 ho2
    go_wp2_with fail
    refine (sColumnWidths_any ps v _ HO2.out HS.out).mono ?_
    rintro e w3 ⟨v3, rfl, ho3, hb3⟩
    rw [HD.out] at ho3
    have HJ3 := Lib.hid (ints_reads ho3 rfl)
    have HI3 := Lib.hid (HI2.out.below (Nat.le_refl _) hb3)
    have HO3 := Lib.hid (HO2.out.below (Nat.le_refl _) hb3)
    have HB3 := Lib.hid (HB2.out.trans (hb3.mono HB2.out.size))
    clear hb3 ho3
    go_wp2_with fail
    refine (equalInts_same D v2 v3 _ HI3.out HJ3.out (by omega)).mono ?_
    rintro e w4 ⟨rfl, hb4⟩
    have HI4 := Lib.hid (HI3.out.below (Nat.le_refl _) hb4)
    have HO4 := Lib.hid (HO3.out.below (Nat.le_refl _) hb4)
    have HB4 := Lib.hid (HB3.out.trans (hb4.mono HB3.out.size))
    clear hb4
    obtain ⟨a2, c2, hv2⟩ := HI4.out.slice
    obtain ⟨m, HM⟩ : ∃ m, Hid (D.length = m) := ⟨_, Lib.hid rfl⟩
    rw [HM.out] at hv2 hcl
    subst hv2
    by_cases h0 : m = 0
    · have he : ((m : Int) == 0) = true := by rw [h0]; rfl
      clear h0
      go_wp2_with fail
      refine (sColumnWidths_any ps v _ HO4.out HS.out).mono ?_
      rintro e w5 ⟨v5, rfl, ho5, hb5⟩
      rw [HD.out] at ho5
      have HJ5 := Lib.hid (ints_reads ho5 rfl)
      have HI5 := Lib.hid (HI4.out.below (Nat.le_refl _) hb5)
      have HB5 := Lib.hid (HB4.out.trans (hb5.mono HB4.out.size))
      clear hb5 ho5
      go_wp2_with fail
      refine (equalInts_same D _ v5 _ HI5.out HJ5.out (by rw [HM.out]; omega)).mono ?_
      rintro e w6 ⟨rfl, hb6⟩
      have HB6 := Lib.hid (HB5.out.trans (hb6.mono HB5.out.size))
      clear hb6
      go_wp2_with fail
      go_ret
      exact ⟨rfl, HB6.out⟩
    · have he : ((m : Int) == 0) = false := beq_eq_false_iff_ne.2 (by omega)
      have hpos := pl.colR_pos (ps := ps) (by rw [HD.out, HM.out]; exact h0)
      have HV := Lib.hid hpos.1
      have HMC : Hid (pl.colsN ps = m) := Lib.hid (by rw [← hpos.2.1, HD.out, HM.out])
      have hn0 := hpos.2.2
      have HW : Hid (pl.widthsI ps = D) := Lib.hid ((pl.colR_yes hpos.1).symm.trans HD.out)
      obtain ⟨n, HN⟩ : ∃ n, Hid (n = ps.length) := ⟨_, Lib.hid rfl⟩
      obtain ⟨ar, cr, hvr⟩ := HO4.out.slice
      rw [← HN.out] at hvr hn0
      have hn7 : n ≤ 7 := by rw [HN.out]; exact HL.out
      subst hvr
      clear hpos h0
      go_wp2_with fail
      go_loopw [5] (fun kv wr => ∃ k : Nat, k ≤ m ∧ kv = .int .i64 k ∧ Hid (Below w4.heap.size w4 wr)) (fun kv _ => m - (intOf kv).toNat)
      case atStart => exact ⟨0, Nat.zero_le _, rfl, Lib.hid (Below.refl _ _)⟩
      case round =>
        obtain ⟨k, hk, rfl, HB⟩ := hrel
        by_cases hlt : k < m
        · have hkc : Hid (k < pl.colsN ps) := Lib.hid (by rw [HMC.out]; exact hlt)
          obtain ⟨W, HWW⟩ : ∃ W, Hid (pl.wide (pl.colL ps k) = W) := ⟨_, Lib.hid rfl⟩
          have HNW : Hid (nthI D k = (W : Int)) := Lib.hid (by rw [← HW.out, pl.widthsI_nth hkc.out, HWW.out])
          go_wp2_with fail
          go_loopw [6, 7] (fun mv iv wi => ∃ (i : Nat) (b : Bool), i ≤ n ∧ iv = .int .i64 i ∧ mv = .bool b ∧ Hid (pl.Met (pl.colL ps k) W i b) ∧ Hid (Below w4.heap.size w4 wi)) (fun _ iv _ => n - (intOf iv).toNat)
          case atStart => exact ⟨0, false, Nat.zero_le _, rfl, rfl, Lib.hid ⟨fun h => by simp at h, fun ⟨t, h, _⟩ => by omega⟩, HB⟩
          case round =>
            obtain ⟨i, b, hi, rfl, rfl, hmet, HBi⟩ := hrel
            by_cases hin : i < n
            · have hil : Hid (i < ps.length) := Lib.hid (by rw [← HN.out]; exact hin)
              obtain ⟨b1, o1, u, rfl, hb1, hc1, hu⟩ := HO4.out.at HN.out HBi.out hin
              obtain ⟨b2, o2, rfl, hb2, hc2⟩ := HI4.out.at HM.out.symm HBi.out hlt
              rw [HNW.out] at hc2
              have hrow := pl.vRows_row HV.out hil.out
              have hr1 : (pl.nthP ps i).length = m := hrow.1.trans HMC.out
              obtain ⟨au, cu, hvu⟩ := hu.1.slice
              have HU := Lib.hid hu.1
              have HR1 := Lib.hid hr1
              rw [hr1] at hvu
              subst hvu
              obtain ⟨b3, o3, e3, hc3⟩ := HU.out.at HR1.out.symm (Below.refl _ _) hlt
              subst e3
              obtain ⟨x, HX⟩ : ∃ x, Hid (nth (pl.nthP ps i) k = x) := ⟨_, Lib.hid rfl⟩
              have HXC : Hid (nth (pl.colL ps k) i = x) := Lib.hid ((pl.colL_nth hil.out).trans HX.out)
              have hxw := pl.le_wide_col (k := k) hil.out
              rw [HWW.out, HX.out] at hxw
              rw [HX.out] at hc3
              have hd1 : decide (W < x.size) = false := decide_eq_false (by omega)
              have hd2 : decide ((W : Int) < (x.size : Int)) = false := decide_eq_false (by omega)
              clear hu hrow hr1
              cases b with
              | true =>
                have hn2 : Hid (pl.Met (pl.colL ps k) W (i + 1) true) := Lib.hid ⟨fun _ => by obtain ⟨t, h1, h2⟩ := hmet.out.1 rfl; exact ⟨t, by omega, h2⟩, fun _ => rfl⟩
                go_wp2_with fail
                go_quiet (fail)
                go_wp2_with fail
                go_quiet (fail)
                go_wp2_with fail
                go_roundw
                case rel => exact ⟨i + 1, true, by omega, by go_num, rfl, hn2, Lib.hid (HBi.out.trans below_drewN)⟩
                case measure => simp [intOf]; omega
              | false =>
                by_cases hxe : x.size = W
                · have he1 : ((x.size : Int) == (W : Int)) = true := by rw [hxe]; simp
                  have hn2 : Hid (pl.Met (pl.colL ps k) W (i + 1) true) := Lib.hid ⟨fun _ => ⟨i, by omega, by rw [HXC.out]; exact hxe⟩, fun _ => rfl⟩
                  clear hxe
                  go_wp2_with fail
                  go_quiet (fail)
                  go_wp2_with fail
                  go_quiet (fail)
                  go_wp2_with fail
                  go_roundw
                  case rel => exact ⟨i + 1, true, by omega, by go_num, rfl, hn2, Lib.hid (HBi.out.trans below_drewN)⟩
                  case measure => simp [intOf]; omega
                · have he1 : ((x.size : Int) == (W : Int)) = false := by simp; omega
                  have hn2 : Hid (pl.Met (pl.colL ps k) W (i + 1) false) := Lib.hid ⟨fun h => by simp at h, fun ⟨t, h1, h2⟩ => by
                    by_cases e : t = i
                    · subst e; rw [HXC.out] at h2; exact absurd h2 hxe
                    · exact hmet.out.2 ⟨t, by omega, h2⟩⟩
                  clear hxe
                  go_wp2_with fail
                  go_quiet (fail)
                  go_wp2_with fail
                  go_quiet (fail)
                  go_wp2_with fail
                  go_roundw
                  case rel => exact ⟨i + 1, false, by omega, by go_num, rfl, hn2, Lib.hid (HBi.out.trans below_drewN)⟩
                  case measure => simp [intOf]; omega
            · obtain rfl : i = n := by omega
              have hbt : b = true := hmet.out.2 (by
                obtain ⟨t, ht, he⟩ := pl.wideTo_met (l := pl.colL ps k) (pl.colL ps k).length (by rw [pl.colL_len, ← HN.out]; exact hn0)
                exact ⟨t, by rw [pl.colL_len, ← HN.out] at ht; exact ht, he.trans HWW.out⟩)
              subst hbt
              go_wp2_with fail
              go_roundw
              case rel => exact ⟨k + 1, by omega, by go_num, HBi⟩
              case measure => simp [intOf]; omega
        · obtain rfl : k = m := by omega
          obtain ⟨b1, o1, u, rfl, hb1, hc1, hu⟩ := HO4.out.at HN.out HB.out hn0
          obtain ⟨au, cu, hvu⟩ := hu.1.slice
          have hr1 : (pl.nthP ps 0).length = k := HMC.out
          rw [hr1] at hvu
          subst hvu
          rw [Nat.add_zero] at hc1
          have HBE := Lib.hid (HB4.out.trans (HB.out.mono HB4.out.size))
          clear hu hr1
          go_wp2_with fail
          go_ret
          exact ⟨rfl, HBE.out⟩
end Go.Proofs.Ytgfpbnafehpopaa
