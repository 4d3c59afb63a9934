/- Contract: the model's RenderRows. -/
import Derived.Test.YtpfheanpbbfpdaaDoorColS
import Derived.Test.YtpfheanpbbfpdaaDoorPad
import Derived.Test.YtpfheanpbbfpdaaDoorJoin
import Derived.Test.YtpfheanpbbfpdaaDoorPkC
import Derived.Deep.RegionHeldLaw
import Derived.Deep.AppendLies
namespace Go.Proofs.YtpfheanpbbfpdaaDoor
open Go.RowKit
set_option maxRecDepth 100000
set_option linter.unusedVariables false

/-- pad, by any of the three ways -/
theorem spad_any (s h : ByteArray) (wd : Nat) (a : Int) (ha : a = wd) (w : World) (hv : pl.validT s.data.toList = true) (h2 : wd ≤ 120) (hh : pl.howB h = true) :
    Calls Tryd.prog 97 #[.string s, .int .i64 a, .string h] w fun e w' => e = .returned (.string (pl.padB s wd h)) ∧ w = w' := by
  subst ha
  have hs := pl.validT_size hv
  rcases pl.how_cases h with ⟨hl, hw⟩ | ⟨hl, hw⟩ | ⟨hl, hw⟩ | ⟨hl, hw⟩
  · rw [pl.padB_left hv h2 hl]; exact spad_left s h wd hw w hs h2
  · rw [pl.padB_right hv h2 hl]; exact spad_right s h wd hw w hs h2
  · rw [pl.padB_mid hv h2 hl]; exact spad_mid s h wd hw w hs h2
  · rw [pl.howB_of hw] at hh; simp at hh

namespace pl
theorem rowP_take {ps : Gs} {hs : List ByteArray} {i k : Nat} (hk : k < colsN ps) : (rowP ps hs i).take k ++ [cellP ps hs i k] = (rowP ps hs i).take (k + 1) := by
  have h1 : k < (rowP ps hs i).length := by rw [rowP_len]; exact hk
  rw [List.take_succ_eq_append_getElem h1, ← nth_eq h1]
  unfold rowP
  rw [drawL_nth _ hk]
theorem rendL_take {ps : Gs} {hs : List ByteArray} {i : Nat} (hi : i < ps.length) : (rendL ps hs).take i ++ [lineP ps hs i] = (rendL ps hs).take (i + 1) := by
  have h1 : i < (rendL ps hs).length := by rw [rendL_len]; exact hi
  rw [List.take_succ_eq_append_getElem h1, ← nth_eq h1]
  unfold rendL
  rw [drawL_nth _ hi]
theorem rend_cases {ps : Gs} {hs : List ByteArray} (hv : vRows ps = true) (h : ps.length = 0 ∨ hs.length = colsN ps) (hh : ∀ i, i < hs.length → howB (nth hs i) = true) : rendR ps hs = rendL ps hs := by
  by_cases h0 : ps.length = 0
  · rw [rendR_nil hs h0, rendL_nil hs h0]
  · exact rendR_yes (rendB_yes hv (by omega) hh)
end pl

theorem colL_validx {ps : pl.Gs} {i k : Nat} (h : pl.vRows ps = true) (hk : k < pl.colsN ps) (hi : i < ps.length) : pl.validT (nth (pl.nthP ps i) k).data.toList = true := pl.colL_text h hk i hi
/-- four cells that stay where they are read -/
structure Four (w : World) (a1 a2 a3 a4 : Addr) (x1 x2 x3 x4 : Value) : Prop where
  c1 : w.cell? a1 = some x1
  c2 : w.cell? a2 = some x2
  c3 : w.cell? a3 = some x3
  c4 : w.cell? a4 = some x4
theorem Four.keep {w w' : World} {a1 a2 a3 a4 : Addr} {x1 x2 x3 x4 : Value} {D : Nat} (h : Four w a1 a2 a3 a4 x1 x2 x3 x4) (b1 : a1.block < D) (b2 : a2.block < D) (b3 : a3.block < D) (b4 : a4.block < D) (hk : ∀ p : Addr, p.block < D → w'.cell? p = w.cell? p) : Four w' a1 a2 a3 a4 x1 x2 x3 x4 :=
  ⟨(hk _ b1).trans h.c1, (hk _ b2).trans h.c2, (hk _ b3).trans h.c3, (hk _ b4).trans h.c4⟩
theorem Four.all {w : World} {a1 a2 a3 a4 : Addr} {x1 x2 x3 x4 : Value} (h : Four w a1 a2 a3 a4 x1 x2 x3 x4) : w.cell? a1 = some x1 ∧ w.cell? a2 = some x2 ∧ w.cell? a3 = some x3 ∧ w.cell? a4 = some x4 := ⟨h.c1, h.c2, h.c3, h.c4⟩

set_option maxHeartbeats 8000000 in
theorem sRender_any (ps : pl.Gs) (hs : List ByteArray) (v u : Value) (w : World) (hr : RPs w v ps) (hu : RStrs w u hs) (hsm : Small ps) (hhl : hs.length ≤ 1048576) (hhs : ∀ i, i < hs.length → (nth hs i).size ≤ 1048576) :
    Calls Tryd.prog 50 #[v, u] w fun e w' => ∃ v', e = .returned v' ∧ OStrs w.heap.size w' v' (pl.rendR ps hs) ∧ Below w.heap.size w w' := by
  obtain ⟨i0, hi, hz0, hz1, hz2⟩ := info_parts infoS
  have HS := Lib.hid hsm
  have HR := Lib.hid hr
  have HU := Lib.hid hu
  have HHS := Lib.hid hhs
  obtain ⟨m, HM⟩ : ∃ m, Hid (m = hs.length) := ⟨_, Lib.hid rfl⟩
  obtain ⟨n, HN⟩ : ∃ n, Hid (n = ps.length) := ⟨_, Lib.hid rfl⟩
  obtain ⟨a0, c0, rfl⟩ := hr.slice
  obtain ⟨a1, c1, rfl⟩ := hu.slice
  have hnl := hsm.len
  rw [← HM.out] at HU hhl ⊢
  rw [← HN.out] at HR hnl ⊢
  clear hr hu hsm hhs
  go_enter Tryd.func50, Tryd.ntmps50
  go_wp2_with fail
  refine (svalidRows_any ps _ _ HR.out HS.out).mono ?_
  rintro e w1 ⟨rfl, hb1⟩
  have HB1 := Lib.hid hb1
  clear hb1
  cases hv : pl.vRows ps with
  | false =>
    have HC := Lib.hid (pl.rendR_no (pl.rendB_rows (hs := hs) hv))
    clear hv
    go_wp2_with fail
    go_ret
    exact ⟨_, rfl, by rw [HC.out]; exact OStrs.nil _ _, HB1.out⟩
  | true =>
    have HV := Lib.hid hv
    clear hv
    have hl6 : n ≤ 6 := by rw [HN.out]; exact (pl.vRows_parts HV.out).1
    have hm5 := pl.vRows_cols HV.out
    have HR1 := Lib.hid (HR.out.below (Nat.le_refl _) HB1.out)
    have HU1 := Lib.hid (HU.out.below (Nat.le_refl _) HB1.out)
    obtain ⟨q, HQ⟩ : ∃ q, Hid (pl.colsN ps = q) := ⟨_, Lib.hid rfl⟩
    rw [HQ.out] at hm5
    have hS1 : w.heap.size ≤ w1.heap.size := HB1.out.size
    /- the first row's cell, where there is one -/
    have H0 : Hid (0 < n → ∃ b o ar cr, a0 = some ⟨b, o, none⟩ ∧ w1.cell? ⟨b, o, none⟩ = some (.slice ar q cr)) := Lib.hid (fun hpos => by
      obtain ⟨b1, o1, u1, e1, _, hc, hu1⟩ := HR1.out.at HN.out (Below.refl _ _) hpos
      obtain ⟨au, cu, hvu⟩ := hu1.1.slice
      have : (pl.nthP ps 0).length = q := HQ.out
      rw [this] at hvu
      rw [Nat.add_zero, hvu] at hc
      exact ⟨b1, o1, au, cu, e1, hc⟩)
    by_cases hfit : n = 0 ∨ m = q
    · have HFT : Hid (ps.length = 0 ∨ hs.length = pl.colsN ps) := Lib.hid (by rw [← HN.out, ← HM.out, HQ.out]; exact hfit)
      have HFM : Hid (0 < n → m = q) := Lib.hid (fun h => by omega)
      have GO : Hid (0 < n ∧ m = q ∨ n = 0) := Lib.hid (by omega)
      clear hfit
      rcases GO.out with ⟨hp, hmq⟩ | h0
      · obtain ⟨b1, o1, ar, cr, rfl, hc0⟩ := H0.out hp
        subst hmq
        have hp1 : (0 : Int) < (n : Int) := by omega
        have hne : ((m : Int) != (m : Int)) = false := by simp
        go_wp2_with fail
        go_loop [5] (fun kv => ∃ k : Nat, k ≤ m ∧ kv = .int .i64 k ∧ Hid (∀ j, j < k → pl.howB (nth hs j) = true)) (fun kv => m - (intOf kv).toNat)
        case atStart => exact ⟨0, Nat.zero_le _, rfl, Lib.hid (fun j h => absurd h (by omega))⟩
        case round =>
          obtain ⟨k, hk, rfl, hok⟩ := hrel
          by_cases hlt : k < m
          · obtain ⟨b4, o4, rfl, hch⟩ := HU1.out.at HM.out (Below.refl _ _) hlt
            obtain ⟨h, HX⟩ : ∃ h, Hid (nth hs k = h) := ⟨_, Lib.hid rfl⟩
            rw [HX.out] at hch
            obtain ⟨hl, hrr, hmm, hhow⟩ : ∃ l r m, pl.How h l r m := by
              rcases pl.how_cases h with ⟨_, hh⟩ | ⟨_, hh⟩ | ⟨_, hh⟩ | ⟨_, hh⟩ <;> exact ⟨_, _, _, hh⟩
            have HHB := Lib.hid (pl.howB_of hhow)
            have HHW := Lib.hid hhow
            clear hhow
            go_wp2_with fail
            refine (isHow_any h _ _ _ HHW.out _).mono ?_
            rintro e w' ⟨rfl, rfl⟩
            cases hbv : (hl || hrr || hmm) with
            | false =>
              have HE := Lib.hid (pl.rendR_no (pl.rendB_how (ps := ps) (hs := hs) (k := k) (by rw [← HM.out]; exact hlt) (by rw [HX.out, HHB.out]; exact hbv)))
              clear hbv
              go_wp2_with fail
              go_ret
              exact ⟨_, rfl, by rw [HE.out]; exact OStrs.nil _ _, HB1.out⟩
            | true =>
              have hok2 : Hid (∀ j, j < k + 1 → pl.howB (nth hs j) = true) := Lib.hid (fun j hj => by
                by_cases e : j = k
                · subst e; rw [HX.out, HHB.out]; exact hbv
                · exact hok.out j (by omega))
              clear hbv
              go_wp2_with fail
              go_round
              case rel => exact ⟨k + 1, by omega, by go_num, hok2⟩
              case measure => simp [intOf]; omega
          · obtain rfl : k = m := by omega
            have HEQ := Lib.hid (pl.rend_cases HV.out HFT.out (by rw [← HM.out]; exact hok.out))
            have HLL : Hid ((pl.rendL ps hs).length = n) := Lib.hid ((pl.rendL_len ps hs).trans HN.out.symm)
            have HRB : Hid (pl.rendB ps hs = true) := Lib.hid (pl.rendB_yes HV.out (by rw [← HM.out, HQ.out]) (by rw [← HM.out]; exact hok.out))
            go_wp2_with fail
            refine (scolumnWidths_ok ps _ _ HR1.out HV.out).mono ?_
            rintro e w2 ⟨v6, rfl, ho6, hb2⟩
            have HI2 := Lib.hid (ints_reads ho6 rfl)
            have HR2 := Lib.hid (HR1.out.below (Nat.le_refl _) hb2)
            have HU2 := Lib.hid (HU1.out.below (Nat.le_refl _) hb2)
            have HB2 := Lib.hid (HB1.out.trans (hb2.mono HB1.out.size))
            have hS2 : w.heap.size ≤ w2.heap.size := HB2.out.size
            obtain ⟨a6, c6, hv6⟩ := HI2.out.slice
            rw [pl.widthsI_len, HQ.out] at hv6
            subst hv6
            have HWL : Hid (k = (pl.widthsI ps).length) := Lib.hid (by rw [pl.widthsI_len, HQ.out])
            clear ho6 hb2 hc0
            have HO0 : Hid (OStrs w2.heap.size (w2.alloc (.cells #[] 9)) (.slice (some ⟨w2.heap.size, 0, none⟩) 0 0) ((pl.rendL ps hs).take 0)) := Lib.hid (World.ownsRow_made _ _ _ (Nat.le_refl _) (by unfold maxLen; omega) rfl)
            have HBa : Hid (Below w2.heap.size w2 (w2.alloc (.cells #[] 9))) := Lib.hid ((Below.refl _ _).alloc (Nat.le_refl _) _)
            go_wp2_with fail
            go_loopw [7, 8] (fun ov iv wr => ∃ i : Nat, i ≤ n ∧ iv = .int .i64 i ∧ Hid (OStrs w2.heap.size wr ov ((pl.rendL ps hs).take i)) ∧ Hid (Below w2.heap.size w2 wr)) (fun _ iv _ => n - (intOf iv).toNat)
            case atStart => exact ⟨0, Nat.zero_le _, rfl, HO0, HBa⟩
            case round =>
              obtain ⟨i, hin, rfl, HO, HB⟩ := hrel
              by_cases hlt : i < n
              · have hil : Hid (i < ps.length) := Lib.hid (by rw [← HN.out]; exact hlt)
                obtain ⟨b1, o1, u1, e1, hb1, hc1, hu1⟩ := HR2.out.at HN.out (Below.refl _ _) hlt
                simp only [Option.some.injEq, Addr.mk.injEq, and_true] at e1
                obtain ⟨rfl, rfl⟩ := e1
                obtain ⟨ar1, cr1, hvr⟩ := hu1.1.slice
                have hrl : (pl.nthP ps i).length = k := (pl.vRows_row HV.out hil.out).1.trans HQ.out
                have HRL := Lib.hid hrl
                have HU3 := Lib.hid hu1.1
                rw [hrl] at hvr
                subst hvr
                have HC1 := Lib.hid hc1
                have hwr : w2.heap.size ≤ wr.heap.size := HB.out.size
                clear hu1 hrl hc1
                have HO3 : Hid (OStrs w2.heap.size (wr.alloc (.cells #[] 9)) u7 ((pl.rendL ps hs).take i)) := Lib.hid (HO.out.below (Nat.le_refl _) ((Below.refl _ _).alloc (Nat.le_refl _) _))
                have LT := Lib.hid (fun g (hg : u7.ownBlock = some g) => (World.ownsRow.lt HO.out g hg).2)
                have HQ3 : Hid (OStrs wr.heap.size (wr.alloc (.cells #[] 9)) (.slice (some ⟨wr.heap.size, 0, none⟩) 0 0) ((pl.rowP ps hs i).take 0)) := Lib.hid (World.ownsRow_made _ _ _ (Nat.le_refl _) (by unfold maxLen; omega) rfl)
                have HB3 : Hid (Below w2.heap.size w2 (wr.alloc (.cells #[] 9))) := Lib.hid (HB.out.alloc hwr _)
                have hS3 : wr.heap.size ≤ (wr.alloc (.cells #[] 9)).heap.size := by simp
                go_wp2_with fail
                obtain ⟨w3, HW3⟩ : ∃ u, Hid (wr.alloc (.cells #[] 9) = u) := ⟨_, Lib.hid rfl⟩
                rw [HW3.out] at HO3 HQ3 HB3 hS3 ⊢
                obtain ⟨D, HD⟩ : ∃ D, Hid (wr.heap.size = D) := ⟨_, Lib.hid rfl⟩
                rw [HD.out] at HQ3 LT hwr hS3 ⊢
                clear HO HB
                go_loopw [9, 10] (fun cv jv wi => ∃ j : Nat, j ≤ k ∧ jv = .int .i64 j ∧ Hid (OStrs D wi cv ((pl.rowP ps hs i).take j)) ∧ Hid (OStrs w2.heap.size wi u7 ((pl.rendL ps hs).take i)) ∧ Hid (Below w2.heap.size w2 wi) ∧ D ≤ wi.heap.size) (fun _ jv _ => k - (intOf jv).toNat)
                case atStart => exact ⟨0, Nat.zero_le _, rfl, HQ3, HO3, HB3, hS3⟩
                case round =>
                  obtain ⟨j, hj, rfl, HQj, HOj, HBj, hDj⟩ := hrel
                  obtain ⟨wi, rfl⟩ : ∃ wi : World, wi = wr := ⟨_, rfl⟩
                  by_cases hjk : j < k
                  · have hkc : Hid (j < pl.colsN ps) := Lib.hid (by rw [HQ.out]; exact hjk)
                    obtain ⟨b2, o2, e2, hc2⟩ := HU3.out.at HRL.out.symm (Below.refl _ _) hjk
                    subst e2
                    obtain ⟨b3, o3, rfl, hb3, hc3⟩ := HI2.out.at HWL.out (Below.refl _ _) hjk
                    obtain ⟨b4, o4, rfl, hc4⟩ := HU2.out.at HM.out (Below.refl _ _) hjk
                    have hb2 : b2 < w2.heap.size := World.block_lt_of_cell? w2 _ hc2
                    have hb4 : b4 < w2.heap.size := World.block_lt_of_cell? w2 _ hc4
                    have hxv := colL_validx HV.out hkc.out hil.out
                    have hhx := hok.out j (by omega)
                    have hwx := pl.wide_col HV.out hkc.out
                    have hcp := pl.cellP_size HRB.out hil.out hkc.out
                    have HTX := Lib.hid (pl.rowP_take (hs := hs) (i := i) hkc.out)
                    rw [pl.widthsI_nth hkc.out] at hc3
                    obtain ⟨x, HX⟩ : ∃ x, Hid (nth (pl.nthP ps i) j = x) := ⟨_, Lib.hid rfl⟩
                    obtain ⟨h, HH⟩ : ∃ h, Hid (nth hs j = h) := ⟨_, Lib.hid rfl⟩
                    obtain ⟨W, HW⟩ : ∃ W, Hid (pl.wide (pl.colL ps j) = W) := ⟨_, Lib.hid rfl⟩
                    rw [HX.out] at hc2 hxv
                    rw [HH.out] at hc4 hhx
                    rw [HW.out] at hc3 hwx hcp
                    have HPY : Hid (pl.cellP ps hs i j = pl.padB x (W : Nat) h) := Lib.hid (by unfold pl.cellP; rw [HX.out, HW.out, HH.out])
                    obtain ⟨y, HY⟩ : ∃ y, Hid (pl.padB x (W : Nat) h = y) := ⟨_, Lib.hid rfl⟩
                    rw [HPY.out, HY.out] at HTX hcp
                    obtain ⟨L, HLE⟩ : ∃ L, Hid ((pl.rowP ps hs i).take j = L) := ⟨_, Lib.hid rfl⟩
                    rw [HLE.out] at HQj HTX
                    have HLJ : Hid (L.length = j) := Lib.hid (by rw [← HLE.out, List.length_take, pl.rowP_len, HQ.out]; omega)
                    have F2 : Four w2 ⟨b1, o1 + i, none⟩ ⟨b2, o2 + j, none⟩ ⟨b3, o3 + j, none⟩ ⟨b4, o4 + j, none⟩ (.slice (some ⟨b2, o2, none⟩) k cr1) (.string x) (.int .i64 W) (.string h) := ⟨HC1.out, hc2, hc3, hc4⟩
                    have F4 := Lib.hid (F2.keep (w' := wi) (D := w2.heap.size) hb1 hb2 hb3 hb4 (fun p hp => HBj.out.cell hp))
                    obtain ⟨k1, k2, k3, k4⟩ := F4.out.all
                    have HXV := Lib.hid hxv
                    have HHX := Lib.hid hhx
                    have hne : ∀ p : Addr, p.block < w2.heap.size → some p.block ≠ u9.ownBlock := fun p hp e => by
                      have := (World.ownsRow.lt HQj.out p.block e.symm).1
                      omega
                    have HNE := Lib.hid hne
                    have hww : w2.heap.size ≤ wi.heap.size := by omega
                    clear hc2 hc3 hc4 F2 hne hxv hhx
                    go_wp2_with fail
                    go_region_held_law (fun w' => w'.cell? ⟨b1, o1 + i, none⟩ = some (.slice (some ⟨b2, o2, none⟩) k cr1) ∧ w'.cell? ⟨b2, o2 + j, none⟩ = some (.string x) ∧ w'.cell? ⟨b3, o3 + j, none⟩ = some (.int .i64 W) ∧ w'.cell? ⟨b4, o4 + j, none⟩ = some (.string h))
                      (first
                        | exact ⟨by simpa using k1, by simpa using k2, by simpa using k3, by simpa using k4⟩
                        | exact (F4.out.keep (D := w2.heap.size) hb1 hb2 hb3 hb4 (fun p hp => ((Below.refl wi.heap.size wi).drew.alloc (Nat.le_refl _) _).cell (p := p) (Nat.lt_of_lt_of_le hp hww))).all
                        | exact (F4.out.keep (D := w2.heap.size) hb1 hb2 hb3 hb4 (fun p hp => (hgrow.cell_far p (by simp; omega) (HNE.out p hp)).trans (((Below.refl wi.heap.size wi).drew.alloc (Nat.le_refl _) _).cell (p := p) (Nat.lt_of_lt_of_le hp hww)))).all)
                      (first
                        | (go_at_call 97; refine (spad_any x h W _ (by first | rfl | go_num) _ HXV.out (by omega) HHX.out).mono ?_; rintro e w5 ⟨rfl, rfl⟩; rw [HY.out])
                        | (refine step_append_lies _ (by rfl) _ _ _ (by rfl) D 9 i0 (.string ByteArray.empty) 1 16 Tryd.underlying23 hi hz0 hz1 hz2 (by rfl) (by decide) _ _ _ (by rfl) (World.ownsRow.alloc (HQj.out.below (Nat.le_refl _) (Below.refl _ _).drew) _) ⟨_, 0, none⟩ 1 1 [.string y] (by rfl) (by rfl) (cell_one_new _ _ _) (fun u hu => by simp at hu; subst hu; rfl) (by decide) (by rw [HLJ.out]; unfold maxLen; omega) (by rw [HLJ.out]; omega) (by simp; omega) _ rfl ?_; intro g cap w6 hown' hgrow hat hltg))
                    have hbE : Below D wi w6 := (((Below.refl D wi).drew).alloc (by simpa using hDj) _).grown hgrow (by simp; omega) (fun g hg => (World.ownsRow.lt HQj.out g hg).1)
                    have HQ6 := Lib.hid (OStrs.push1 hown')
                    rw [HTX.out] at HQ6
                    have HO6 : Hid (OStrs w2.heap.size w6 u7 ((pl.rendL ps hs).take i)) := Lib.hid (own_keep HOj.out (fun b hb => hbE.block b (LT.out b hb)))
                    have HB6 := Lib.hid (HBj.out.trans (hbE.mono hwr))
                    have hD6 : D ≤ w6.heap.size := Nat.le_trans hDj hbE.size
                    clear hown' hgrow hat hltg hbE k1 k2 k3 k4
                    go_wp2
                    go_roundw
                    case rel => exact ⟨j + 1, by omega, by go_num, HQ6, HO6, HB6, hD6⟩
                    case measure => simp [intOf]; omega
                  · obtain rfl : j = k := by omega
                    have HQF : Hid (OStrs D wi u9 (pl.rowP ps hs i)) := Lib.hid (by
                      have := HQj.out
                      rw [List.take_of_length_le (by rw [pl.rowP_len, HQ.out]; exact Nat.le_refl _)] at this
                      exact this)
                    have k1 := (HBj.out.cell (p := ⟨b1, o1 + i, none⟩) hb1).trans HC1.out
                    have HTX := Lib.hid (pl.rendL_take (hs := hs) hil.out)
                    have hLz := pl.lineP_le HRB.out hil.out
                    obtain ⟨y, HY⟩ : ∃ y, Hid (pl.lineP ps hs i = y) := ⟨_, Lib.hid rfl⟩
                    rw [HY.out] at HTX hLz
                    obtain ⟨L, HLE⟩ : ∃ L, Hid ((pl.rendL ps hs).take i = L) := ⟨_, Lib.hid rfl⟩
                    rw [HLE.out] at HOj HTX
                    have HLJ : Hid (L.length = i) := Lib.hid (by rw [← HLE.out, List.length_take, HLL.out]; omega)
                    have hww : w2.heap.size ≤ wi.heap.size := by omega
                    go_wp2_with fail
                    refine (sjoin_any (pl.rowP ps hs i) ⟨#[32, 124, 32]⟩ _ _ HQF.out.reads (by rw [pl.rowP_len, HQ.out]; omega) (by have e : pl.joinB (pl.rowP ps hs i) ⟨#[32, 124, 32]⟩ = y := HY.out; rw [e]; omega)).mono ?_
                    rintro e w' ⟨rfl, rfl⟩
                    have HYE : Hid (pl.joinB (pl.rowP ps hs i) ⟨#[32, 124, 32]⟩ = y) := Lib.hid HY.out
                    rw [HYE.out]
                    go_wp2_with (at_builtin; refine wpList_append_own _ rfl _ _ 23 rfl w2.heap.size 9 i0 (.string ByteArray.empty) 1 16 Tryd.underlying23 hi hz0 hz1 hz2 rfl (by decide) _ _ _ rfl (World.ownsRow.alloc HOj.out _) ⟨wi.heap.size, 0, none⟩ 1 1 [.string y] rfl rfl ?ka1 ?ka2 ?ka3 ?ka4 ?ka5 ?_)
                    case ka1 => exact cell_one_new _ _ _
                    case ka2 => intro u hu; simp at hu; subst hu; rfl
                    case ka3 => rw [HLJ.out]; unfold maxLen; omega
                    case ka4 => rw [HLJ.out]; omega
                    case ka5 => simp; omega
                    intro v6 w6 hown6 hgrow6 _
                    have HO6 := Lib.hid (OStrs.push1 hown6)
                    rw [HTX.out] at HO6
                    have HB6 := Lib.hid (HBj.out.trans (((Below.refl _ _).alloc hww _).grown hgrow6 (by simp; omega) (fun b hb => (World.ownsRow.lt HOj.out b hb).1)))
                    clear hown6 hgrow6 k1
                    go_wp2
                    go_roundw
                    case rel => exact ⟨i + 1, by omega, by go_num, HO6, HB6⟩
                    case measure => simp [intOf]; omega
              · obtain rfl : i = n := by omega
                have HE : Hid (OStrs w.heap.size wr u7 (pl.rendR ps hs)) := Lib.hid (by
                  have := HO.out
                  rw [List.take_of_length_le (by rw [HLL.out]; exact Nat.le_refl _)] at this
                  rw [HEQ.out]; exact this.mono hS2)
                have HBE := Lib.hid (HB2.out.trans (HB.out.mono hS2))
                go_wp2_with fail
                go_ret
                exact ⟨_, rfl, HE.out, HBE.out⟩
      · subst h0
        have hp1 : ¬ (0 : Int) < ((0 : Nat) : Int) := by omega
        go_wp2_with fail
        go_loop [5] (fun kv => ∃ k : Nat, k ≤ m ∧ kv = .int .i64 k) (fun kv => m - (intOf kv).toNat)
        case atStart => exact ⟨0, Nat.zero_le _, rfl⟩
        case round =>
          obtain ⟨k, hk, rfl⟩ := hrel
          have HE := Lib.hid (pl.rendR_nil (ps := ps) hs HN.out.symm)
          by_cases hlt : k < m
          · obtain ⟨b4, o4, rfl, hch⟩ := HU1.out.at HM.out (Below.refl _ _) hlt
            obtain ⟨h, HX⟩ : ∃ h, Hid (nth hs k = h) := ⟨_, Lib.hid rfl⟩
            rw [HX.out] at hch
            obtain ⟨hl, hrr, hmm, hhow⟩ : ∃ l r m, pl.How h l r m := by
              rcases pl.how_cases h with ⟨_, hh⟩ | ⟨_, hh⟩ | ⟨_, hh⟩ | ⟨_, hh⟩ <;> exact ⟨_, _, _, hh⟩
            have HHW := Lib.hid hhow
            clear hhow
            go_wp2_with fail
            refine (isHow_any h _ _ _ HHW.out _).mono ?_
            rintro e w' ⟨rfl, rfl⟩
            cases hbv : (hl || hrr || hmm) with
            | false =>
              clear hbv
              go_wp2_with fail
              go_ret
              exact ⟨_, rfl, by rw [HE.out]; exact OStrs.nil _ _, HB1.out⟩
            | true =>
              clear hbv
              go_wp2_with fail
              go_round
              case rel => exact ⟨k + 1, by omega, by go_num⟩
              case measure => simp [intOf]; omega
          · obtain rfl : k = m := by omega
            go_wp2_with fail
            refine (scolumnWidths_ok ps _ _ HR1.out HV.out).mono ?_
            rintro e w2 ⟨v6, rfl, ho6, hb2⟩
            have HB2 := Lib.hid (HB1.out.trans (hb2.mono HB1.out.size))
            have hS2 : w.heap.size ≤ w2.heap.size := HB2.out.size
            clear ho6 hb2
            have HO0 : Hid (OStrs w2.heap.size (w2.alloc (.cells #[] 9)) (.slice (some ⟨w2.heap.size, 0, none⟩) 0 0) []) := Lib.hid (World.ownsRow_made _ _ _ (Nat.le_refl _) (by unfold maxLen; omega) rfl)
            have HBa : Hid (Below w.heap.size w (w2.alloc (.cells #[] 9))) := Lib.hid (HB2.out.alloc hS2 _)
            go_wp2_with fail
            refine wp_loop_rounds 1 ?_
            rw [rounds_succ]
            go_wp2_with fail
            go_ret
            exact ⟨_, rfl, by rw [HE.out]; exact HO0.out.mono hS2, HBa.out⟩
    · have HFT : Hid (¬ hs.length = pl.colsN ps) := Lib.hid (by rw [← HM.out, HQ.out]; omega)
      have hp : 0 < n := by omega
      have hp1 : (0 : Int) < (n : Int) := by omega
      obtain ⟨b1, o1, ar, cr, rfl, hc0⟩ := H0.out hp
      have hmq : ¬ m = q := by omega
      have hne : ((m : Int) == (q : Int)) = false := by simp; omega
      have hne2 : ((m : Int) != (q : Int)) = true := by simp; omega
      have HC := Lib.hid (pl.rendR_no (pl.rendB_len (ps := ps) HFT.out))
      clear hfit hmq
      go_wp2_with fail
      go_ret
      exact ⟨_, rfl, by rw [HC.out]; exact OStrs.nil _ _, HB1.out⟩
end Go.Proofs.YtpfheanpbbfpdaaDoor
