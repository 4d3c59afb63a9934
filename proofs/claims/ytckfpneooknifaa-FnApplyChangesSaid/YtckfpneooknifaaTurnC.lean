/- Contracts: TurnChanges of both sides. -/
import Derived.Test.YtckfpneooknifaaChV
import Derived.Test.YtckfpneooknifaaArgsC
import Derived.Deep.Cut
namespace Go.Proofs.Ytckfpneooknifaa
open Go.RowKit
set_option maxRecDepth 100000
set_option linter.unusedVariables false

theorem mapC_nth {cs : List pl.Ch} {k : Nat} (h : k < cs.length) : pl.nthH (cs.map pl.turnC) k = (pl.turnK (pl.nthH cs k).1, (pl.nthH cs k).2) := by
  rw [pl.nthH_eq (by simpa using h), List.getElem_map, pl.nthH_eq h]; rfl

set_option maxHeartbeats 4000000 in
theorem iTurnChanges_any (cs : List pl.Ch) (v : Value) (w : World) (hr : RCh w v cs) (hsz : ∀ i, i < cs.length → (pl.nthH cs i).2.size ≤ maxLen) :
    Calls Try.prog 28 #[v] w fun e w' => ∃ v', e = .returned v' ∧ OCh w.heap.size w' v' (pl.backR cs) ∧ Below w.heap.size w w' := by
  obtain ⟨i0, hi, hz0, hz1, hz2⟩ := info_parts infoCh
  have HR := Lib.hid hr
  have HSZ := Lib.hid hsz
  cases hv : pl.vCh cs with
  | false =>
    have HV := Lib.hid hv
    have HE := Lib.hid (pl.backR_no hv)
    clear hr hsz hv
    go_enter Try.func28, Try.ntmps28
    go_wp2_with fail
    refine (ivalidChanges_any cs v _ HR.out HSZ.out).mono ?_
    rintro e w1 ⟨rfl, hb1⟩
    rw [HV.out]
    have HB1 := Lib.hid hb1
    clear hb1
    go_wp2_with fail
    go_ret
    exact ⟨_, rfl, by rw [HE.out]; exact OCh.nil _ _, HB1.out⟩
  | true =>
    have HV := Lib.hid hv
    have HE := Lib.hid (pl.backR_yes hv)
    have HK := Lib.hid (fun (i : Nat) (h : i < cs.length) => pl.vCh_at hv h)
    have hn40' := (pl.vCh_parts hv).1
    obtain ⟨a0, c0, rfl⟩ := hr.slice
    obtain ⟨n, HN⟩ : ∃ n, Hid (n = cs.length) := ⟨_, Lib.hid rfl⟩
    rw [← HN.out] at HR hn40' ⊢
    clear hr hsz hv
    go_enter Try.func28, Try.ntmps28
    go_wp2_with fail
    refine (ivalidChanges_any cs _ _ HR.out HSZ.out).mono ?_
    rintro e w1 ⟨rfl, hb1⟩
    rw [HV.out]
    have HB1 := Lib.hid hb1
    have HR1 := Lib.hid (HR.out.below (Nat.le_refl _) hb1)
    have hD1 : w.heap.size ≤ w1.heap.size := hb1.size
    clear hb1
    go_wp2_with (at_make; refine wpList_make_full _ rfl _ _ 33 rfl w1.heap.size 79 i0 (.agg #[.int .i64 0, .string ByteArray.empty]) 2 Try.underlying33 hi hz0 hz1 _ _ _ _ n rfl rfl rfl rfl ?b1 ?b2 ?b3 ?_)
    case b1 => rw [hz2]; omega
    case b2 => unfold maxLen; omega
    case b3 => exact Nat.le_refl _
    intro w2 hown hgrow
    have hb0 : Below w1.heap.size w1 w2 := (Below.refl _ _).grown hgrow (Nat.le_refl _) (fun g hg => by cases hg)
    have HO0 : Hid (OPr 79 w1.heap.size w2 (.slice (some ⟨w1.heap.size, 0, none⟩) n n) n (List.replicate n (.int .i64 0, .string ByteArray.empty))) := Lib.hid (by
      show w2.ownsRow _ _ _ _ _ _
      rw [← made_pairs]; exact hown)
    have HB0 := Lib.hid hb0
    clear hown hgrow hb0
    go_wp2_with fail
    obtain ⟨g, HG⟩ : ∃ g, Hid (w1.heap.size = g) := ⟨_, Lib.hid rfl⟩
    rw [HG.out] at HO0 HB0 hD1 ⊢
    go_loopw [14] (fun iv wr => ∃ (k : Nat) (rs : List Pr), k ≤ n ∧ iv = .int .i64 k ∧ Hid (OPr 79 g wr (.slice (some ⟨g, 0, none⟩) n n) n rs) ∧ Hid (FirstC (cs.map pl.turnC) rs k) ∧ Hid (Below g w1 wr)) (fun iv _ => n - (intOf iv).toNat)
    case atStart => exact ⟨0, _, Nat.zero_le _, rfl, HO0, Lib.hid (fun i h => absurd h (by omega)), HB0⟩
    case round =>
      obtain ⟨k, rs, hk, rfl, HO, HF, HB⟩ := hrel
      by_cases hlt : k < n
      · obtain ⟨b, o, rfl, hbw, c1, c2⟩ := HR1.out.at HN.out (by rw [HG.out]; exact HB.out) hlt
        have hlc : k < cs.length := by rw [← HN.out]; exact hlt
        have HM := Lib.hid (mapC_nth hlc)
        obtain ⟨hk0, hk2, hl120, _⟩ := HK.out k hlc
        obtain ⟨kd, HKD⟩ : ∃ kd, Hid ((pl.nthH cs k).1 = kd) := ⟨_, Lib.hid rfl⟩
        obtain ⟨ln, HLN⟩ : ∃ ln, Hid ((pl.nthH cs k).2 = ln) := ⟨_, Lib.hid rfl⟩
        rw [HKD.out] at c1 HM hk0 hk2
        rw [HLN.out] at c2 HM hl120
        have hgw : g < wr.heap.size := (World.ownsRow.lt HO.out g rfl).2
        have hbA : Below wr.heap.size wr (wr.alloc (.cells #[.int .i64 kd, .string ln] 79)) := (Below.refl _ _).alloc (Nat.le_refl _) _
        have HOA := Lib.hid (pr_below HO.out hbA)
        have HBA := Lib.hid (HB.out.trans (hbA.mono (by omega)))
        have hx0 : (wr.alloc (.cells #[.int .i64 kd, .string ln] 79)).cell? ⟨wr.heap.size, 0, none⟩ = some (.int .i64 kd) := by simp
        have hx1 : (wr.alloc (.cells #[.int .i64 kd, .string ln] 79)).cell? ⟨wr.heap.size, 1, none⟩ = some (.string ln) := by simp
        have hsz : wr.heap.size < (wr.alloc (.cells #[.int .i64 kd, .string ln] 79)).heap.size := by simp
        have HX0 := Lib.hid hx0
        have HX1 := Lib.hid hx1
        clear hbA hlc hx0 hx1
        go_upto_region 7 with (fail)
        obtain ⟨wA, HWA⟩ : ∃ wA, Hid (wr.alloc (.cells #[.int .i64 kd, .string ln] 79) = wA) := ⟨_, Lib.hid rfl⟩
        rw [HWA.out] at HOA HBA HX0 HX1 hsz ⊢
        obtain ⟨x, HX⟩ : ∃ x, Hid (wr.heap.size = x) := ⟨_, Lib.hid rfl⟩
        rw [HX.out] at HX0 HX1 hgw hsz ⊢
        obtain ⟨pc0, pc1, pf0, pf1⟩ := pr_cells HOA.out hlt
        obtain ⟨ps0, pg0, pc2, pf2⟩ := pr_store HOA.out hlt (.int .i64 kd) (.string ln)
        have hbx := pg0.cell HX0.out (fun e => by simp at e; omega)
        have HPS := Lib.hid ps0
        have HPX := Lib.hid hbx
        have HB3 := Lib.hid (HBA.out.trans (below_of_grown pg0 (by omega) (fun g hg => by cases hg; exact Nat.le_refl _)))
        clear ps0 pg0 hbx
        have hx0 := HX0.out
        have hx1 := HX1.out
        go_upto_region 8 with (fail)
        clear hx0 hx1 pc0 pc1 pf0 pf1 pc2 pf2
        obtain ⟨wB, HWB⟩ : ∃ wB, Hid ((wA.setCell ⟨g, k * 2, none⟩ (.int .i64 kd)).setCell ⟨g, k * 2 + 1, none⟩ (.string ln) = wB) := ⟨_, Lib.hid rfl⟩
        rw [HWB.out] at HPS HPX HB3 ⊢
        have hbx := HPX.out
        obtain ⟨pc0, pc1, pf0, pf1⟩ := pr_cells HPS.out hlt
        have hrl : k < rs.length := by rw [pr_len HO.out]; exact hlt
        rw [nthC_same hrl] at pc0 pc1
        have hgB : g ≤ wB.heap.size := by have := (World.ownsRow.lt HPS.out g rfl).2; omega
        by_cases h1 : kd = 1
        · subst h1
          obtain ⟨ps1, pg1⟩ := pr_store0 HPS.out hlt (.int .i64 2)
          rw [nthC_same hrl, List.set_set] at ps1
          have HPS1 := Lib.hid ps1
          have HF1 := Lib.hid (HF.out.push hrl (x := 2) (y := ln) (by rw [HM.out]; rfl) (by rw [HM.out]))
          have HB4 := Lib.hid (HB3.out.trans (below_of_grown pg1 hgB (fun g hg => by cases hg; exact Nat.le_refl _)))
          clear ps1 pg1
          go_wp2_with fail
          go_roundw
          case rel => exact ⟨k + 1, _, by omega, by go_num, HPS1, HF1, HB4⟩
          case measure => simp [intOf]; omega
        · have h1' : (kd == 1) = false := by simp [h1]
          by_cases h2 : kd = 2
          · subst h2
            obtain ⟨ps1, pg1⟩ := pr_store0 HPS.out hlt (.int .i64 1)
            rw [nthC_same hrl, List.set_set] at ps1
            have HPS1 := Lib.hid ps1
            have HF1 := Lib.hid (HF.out.push hrl (x := 1) (y := ln) (by rw [HM.out]; rfl) (by rw [HM.out]))
            have HB4 := Lib.hid (HB3.out.trans (below_of_grown pg1 hgB (fun g hg => by cases hg; exact Nat.le_refl _)))
            clear ps1 pg1
            go_wp2_with fail
            go_roundw
            case rel => exact ⟨k + 1, _, by omega, by go_num, HPS1, HF1, HB4⟩
            case measure => simp [intOf]; omega
          · have h2' : (kd == 2) = false := by simp [h2]
            have HF1 := Lib.hid (HF.out.push hrl (x := kd) (y := ln) (by rw [HM.out]; show pl.turnK kd = kd; unfold pl.turnK; rw [if_neg h1, if_neg h2]) (by rw [HM.out]))
            go_wp2_with fail
            go_roundw
            case rel => exact ⟨k + 1, _, by omega, by go_num, HPS, HF1, HB3⟩
            case measure => simp [intOf]; omega
      · obtain rfl : k = n := by omega
        have HE2 := Lib.hid (made_changes HO.out (by rw [HN.out, List.length_map]) HF.out)
        go_wp2_with fail
        go_ret
        exact ⟨_, rfl, by rw [HE.out]; exact HE2.out.mono hD1, HB1.out.trans (HB.out.mono hD1)⟩

set_option maxHeartbeats 4000000 in
theorem sTurnChanges_any (cs : List pl.Ch) (v : Value) (w : World) (hr : RCh w v cs) (hlen : cs.length ≤ maxLen) (hsz : ∀ i, i < cs.length → (pl.nthH cs i).2.size ≤ maxLen) :
    Calls Try.prog 31 #[v] w fun e w' => ∃ v', e = .returned v' ∧ OCh w.heap.size w' v' (pl.backR cs) ∧ Below w.heap.size w w' := by
  obtain ⟨i0, hi, hz0, hz1, hz2⟩ := info_parts infoCh
  have HR := Lib.hid hr
  have HSZ := Lib.hid hsz
  have HLN := Lib.hid hlen
  cases hv : pl.vCh cs with
  | false =>
    have HV := Lib.hid hv
    have HE := Lib.hid (pl.backR_no hv)
    clear hr hsz hv hlen
    go_enter Try.func31, Try.ntmps31
    go_wp2_with fail
    refine (svalidChanges_any cs v _ HR.out HLN.out HSZ.out).mono ?_
    rintro e w' ⟨rfl, rfl⟩
    rw [HV.out]
    go_wp2_with fail
    go_ret
    exact ⟨_, rfl, by rw [HE.out]; exact OCh.nil _ _, Below.refl _ _⟩
  | true =>
    have HV := Lib.hid hv
    have HE := Lib.hid (pl.backR_yes hv)
    have HK := Lib.hid (fun (i : Nat) (h : i < cs.length) => pl.vCh_at hv h)
    have hn40' := (pl.vCh_parts hv).1
    obtain ⟨a0, c0, rfl⟩ := hr.slice
    obtain ⟨n, HN⟩ : ∃ n, Hid (n = cs.length) := ⟨_, Lib.hid rfl⟩
    rw [← HN.out] at HR hn40' ⊢
    clear hr hsz hv hlen
    go_enter Try.func31, Try.ntmps31
    go_wp2_with fail
    refine (svalidChanges_any cs _ _ HR.out HLN.out HSZ.out).mono ?_
    rintro e w' ⟨rfl, rfl⟩
    rw [HV.out]
    go_wp2_with fail
    have HO0 : Hid (OCh w.heap.size (w.alloc (.cells #[] 79)) (.slice (some ⟨w.heap.size, 0, none⟩) 0 0) ((cs.take 0).map pl.turnC)) := Lib.hid (World.ownsRow_made _ _ _ (Nat.le_refl _) (by unfold maxLen; omega) rfl)
    have HB0 : Hid (Below w.heap.size w (w.alloc (.cells #[] 79))) := Lib.hid ((Below.refl _ _).alloc (Nat.le_refl _) _)
    obtain ⟨w0, HW0⟩ : ∃ w0, Hid (w.alloc (.cells #[] 79) = w0) := ⟨_, Lib.hid rfl⟩
    rw [HW0.out] at HO0 HB0 ⊢
    obtain ⟨D, HD⟩ : ∃ D, Hid (w.heap.size = D) := ⟨_, Lib.hid rfl⟩
    rw [HD.out] at HO0 HB0 ⊢
    go_loopw [3, 4] (fun ov iv wr => ∃ k : Nat, k ≤ n ∧ iv = .int .i64 k ∧ Hid (OCh D wr ov ((cs.take k).map pl.turnC)) ∧ Hid (Below D w wr)) (fun _ iv _ => n - (intOf iv).toNat)
    case atStart => exact ⟨0, Nat.zero_le _, rfl, HO0, HB0⟩
    case round =>
      obtain ⟨k, hk, rfl, HO, HB⟩ := hrel
      by_cases hlt : k < n
      · obtain ⟨b, o, rfl, hbw, c1, c2⟩ := HR.out.at HN.out (by rw [HD.out]; exact HB.out) hlt
        have hlc : k < cs.length := by rw [← HN.out]; exact hlt
        have HNX := Lib.hid (pl.turn_next hlc)
        have HLK : Hid (((cs.take k).map pl.turnC).length ≤ 40) := Lib.hid (by rw [List.length_map, List.length_take]; omega)
        obtain ⟨L, HL⟩ : ∃ L, Hid ((cs.take k).map pl.turnC = L) := ⟨_, Lib.hid rfl⟩
        obtain ⟨hk0, hk2, hl120, _⟩ := HK.out k hlc
        obtain ⟨kd, HKD⟩ : ∃ kd, Hid ((pl.nthH cs k).1 = kd) := ⟨_, Lib.hid rfl⟩
        obtain ⟨ln, HLn⟩ : ∃ ln, Hid ((pl.nthH cs k).2 = ln) := ⟨_, Lib.hid rfl⟩
        rw [HKD.out] at c1 HNX hk0 hk2
        rw [HLn.out] at c2 HNX hl120
        rw [HL.out] at HNX HLK HO
        have hDw : D ≤ wr.heap.size := by have := HB.out.size; rw [HD.out] at this; exact this
        clear hlc
        by_cases h1 : kd = 1
        · subst h1
          rw [show pl.turnK 1 = 2 from by decide] at HNX
          go_upto_region 12 with (fail)
          have HOA := Lib.hid (HO.out.below ((Below.refl _ _).alloc (Nat.le_refl _) (.cells #[.int .i64 2, .string ln] 79)))
          have HBA := Lib.hid (HB.out.alloc hDw (.cells #[.int .i64 2, .string ln] 79))
          have hx0 : (wr.alloc (.cells #[.int .i64 2, .string ln] 79)).cell? ⟨wr.heap.size, 0, none⟩ = some (.int .i64 2) := by simp
          have hx1 : (wr.alloc (.cells #[.int .i64 2, .string ln] 79)).cell? ⟨wr.heap.size, 1, none⟩ = some (.string ln) := by simp
          have hDA : D ≤ (wr.alloc (.cells #[.int .i64 2, .string ln] 79)).heap.size := by simp; omega
          obtain ⟨wA, HWA⟩ : ∃ wA, Hid (wr.alloc (.cells #[.int .i64 2, .string ln] 79) = wA) := ⟨_, Lib.hid rfl⟩
          rw [HWA.out] at HOA HBA hx0 hx1 hDA ⊢
          obtain ⟨x, HX⟩ : ∃ x, Hid (wr.heap.size = x) := ⟨_, Lib.hid rfl⟩
          rw [HX.out] at hx0 hx1 ⊢
          go_wp2_with (at_builtin; refine wpList_append_own _ rfl _ _ 33 rfl D 79 i0 (.agg #[.int .i64 0, .string ByteArray.empty]) 2 24 Try.underlying33 hi hz0 hz1 hz2 rfl (by decide) _ _ _ rfl (World.ownsRow.alloc HOA.out _) ⟨wA.heap.size, 0, none⟩ 1 1 [.int .i64 2, .string ln] rfl rfl (cell_pair_new _ _ _ _) (by intro u hu; simp at hu; rcases hu with h | h <;> subst h <;> rfl) (by have := HLK.out; unfold maxLen; omega) (by have := HLK.out; omega) (by simp; omega) ?_)
          intro v8 w8 hown8 hgrow8 _
          have HO8 := Lib.hid (OCh.push hown8)
          rw [← HNX.out] at HO8
          have HB8 := Lib.hid ((HBA.out.alloc hDA _).grown hgrow8 (by simp; omega) (fun g hg => (World.ownsRow.lt HOA.out g hg).1))
          clear hown8 hgrow8 hx0 hx1
          go_wp2
          go_roundw
          case rel => exact ⟨k + 1, by omega, by go_num, HO8, HB8⟩
          case measure => simp [intOf]; omega
        · have h1' : (kd == 1) = false := by simp [h1]
          by_cases h2 : kd = 2
          · subst h2
            rw [show pl.turnK 2 = 1 from by decide] at HNX
            go_upto_region 12 with (fail)
            have HOA := Lib.hid (HO.out.below ((Below.refl _ _).alloc (Nat.le_refl _) (.cells #[.int .i64 1, .string ln] 79)))
            have HBA := Lib.hid (HB.out.alloc hDw (.cells #[.int .i64 1, .string ln] 79))
            have hx0 : (wr.alloc (.cells #[.int .i64 1, .string ln] 79)).cell? ⟨wr.heap.size, 0, none⟩ = some (.int .i64 1) := by simp
            have hx1 : (wr.alloc (.cells #[.int .i64 1, .string ln] 79)).cell? ⟨wr.heap.size, 1, none⟩ = some (.string ln) := by simp
            have hDA : D ≤ (wr.alloc (.cells #[.int .i64 1, .string ln] 79)).heap.size := by simp; omega
            obtain ⟨wA, HWA⟩ : ∃ wA, Hid (wr.alloc (.cells #[.int .i64 1, .string ln] 79) = wA) := ⟨_, Lib.hid rfl⟩
            rw [HWA.out] at HOA HBA hx0 hx1 hDA ⊢
            obtain ⟨x, HX⟩ : ∃ x, Hid (wr.heap.size = x) := ⟨_, Lib.hid rfl⟩
            rw [HX.out] at hx0 hx1 ⊢
            go_wp2_with (at_builtin; refine wpList_append_own _ rfl _ _ 33 rfl D 79 i0 (.agg #[.int .i64 0, .string ByteArray.empty]) 2 24 Try.underlying33 hi hz0 hz1 hz2 rfl (by decide) _ _ _ rfl (World.ownsRow.alloc HOA.out _) ⟨wA.heap.size, 0, none⟩ 1 1 [.int .i64 1, .string ln] rfl rfl (cell_pair_new _ _ _ _) (by intro u hu; simp at hu; rcases hu with h | h <;> subst h <;> rfl) (by have := HLK.out; unfold maxLen; omega) (by have := HLK.out; omega) (by simp; omega) ?_)
            intro v8 w8 hown8 hgrow8 _
            have HO8 := Lib.hid (OCh.push hown8)
            rw [← HNX.out] at HO8
            have HB8 := Lib.hid ((HBA.out.alloc hDA _).grown hgrow8 (by simp; omega) (fun g hg => (World.ownsRow.lt HOA.out g hg).1))
            clear hown8 hgrow8 hx0 hx1
            go_wp2
            go_roundw
            case rel => exact ⟨k + 1, by omega, by go_num, HO8, HB8⟩
            case measure => simp [intOf]; omega
          · have h2' : (kd == 2) = false := by simp [h2]
            rw [show pl.turnK kd = kd from by unfold pl.turnK; rw [if_neg h1, if_neg h2]] at HNX
            go_upto_region 12 with (fail)
            have HOA := Lib.hid (HO.out.below ((Below.refl _ _).alloc (Nat.le_refl _) (.cells #[.int .i64 kd, .string ln] 79)))
            have HBA := Lib.hid (HB.out.alloc hDw (.cells #[.int .i64 kd, .string ln] 79))
            have hx0 : (wr.alloc (.cells #[.int .i64 kd, .string ln] 79)).cell? ⟨wr.heap.size, 0, none⟩ = some (.int .i64 kd) := by simp
            have hx1 : (wr.alloc (.cells #[.int .i64 kd, .string ln] 79)).cell? ⟨wr.heap.size, 1, none⟩ = some (.string ln) := by simp
            have hDA : D ≤ (wr.alloc (.cells #[.int .i64 kd, .string ln] 79)).heap.size := by simp; omega
            obtain ⟨wA, HWA⟩ : ∃ wA, Hid (wr.alloc (.cells #[.int .i64 kd, .string ln] 79) = wA) := ⟨_, Lib.hid rfl⟩
            rw [HWA.out] at HOA HBA hx0 hx1 hDA ⊢
            obtain ⟨x, HX⟩ : ∃ x, Hid (wr.heap.size = x) := ⟨_, Lib.hid rfl⟩
            rw [HX.out] at hx0 hx1 ⊢
            go_wp2_with (at_builtin; refine wpList_append_own _ rfl _ _ 33 rfl D 79 i0 (.agg #[.int .i64 0, .string ByteArray.empty]) 2 24 Try.underlying33 hi hz0 hz1 hz2 rfl (by decide) _ _ _ rfl (World.ownsRow.alloc HOA.out _) ⟨wA.heap.size, 0, none⟩ 1 1 [.int .i64 kd, .string ln] rfl rfl (cell_pair_new _ _ _ _) (by intro u hu; simp at hu; rcases hu with h | h <;> subst h <;> rfl) (by have := HLK.out; unfold maxLen; omega) (by have := HLK.out; omega) (by simp; omega) ?_)
            intro v8 w8 hown8 hgrow8 _
            have HO8 := Lib.hid (OCh.push hown8)
            rw [← HNX.out] at HO8
            have HB8 := Lib.hid ((HBA.out.alloc hDA _).grown hgrow8 (by simp; omega) (fun g hg => (World.ownsRow.lt HOA.out g hg).1))
            clear hown8 hgrow8 hx0 hx1
            go_wp2
            go_roundw
            case rel => exact ⟨k + 1, by omega, by go_num, HO8, HB8⟩
            case measure => simp [intOf]; omega
      · obtain rfl : k = n := by omega
        have HE2 : Hid ((cs.take k).map pl.turnC = pl.backR cs) := Lib.hid (by rw [HN.out, List.take_length, HE.out])
        rw [HE2.out] at HO
        go_wp2_with fail
        go_ret
        exact ⟨_, rfl, by rw [HD.out]; exact HO.out, by rw [HD.out]; exact HB.out⟩
end Go.Proofs.Ytckfpneooknifaa
