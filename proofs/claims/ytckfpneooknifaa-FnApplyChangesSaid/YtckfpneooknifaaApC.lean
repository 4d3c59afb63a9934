/- Contracts: ApplyChanges of both sides. -/
import Derived.Test.YtckfpneooknifaaPlainAp
import Derived.Test.YtckfpneooknifaaChV
import Derived.Test.YtckfpneooknifaaJoinI
import Derived.BigQuiet
import Derived.Deep.Cut
namespace Go.Proofs.Ytckfpneooknifaa
open Go.RowKit
set_option maxRecDepth 100000
set_option linter.unusedVariables false

/-- the first line of a slice that can be read is taken off -/
theorem LStrs.tail {b o n cap : Nat} {w : World} {l : List ByteArray} (h : LStrs w (.slice (some ⟨b, o, none⟩) n cap) l) (hn : n = l.length) (h0 : 0 < n) : LStrs w (.slice (if cap = 1 then some ⟨b, o, none⟩ else some ⟨b, o + 1, none⟩) (n - 1) (cap - 1)) (l.drop 1) := by
  obtain ⟨hr, a, c, hv, hc⟩ := h
  injection hv with e1 e2 e3
  subst e3
  have hl : (l.drop 1).length = n - 1 := by rw [List.length_drop]; omega
  refine ⟨?_, _, _, by rw [hl], by omega⟩
  rcases Nat.eq_zero_or_pos (n - 1) with h1 | h1
  · exact .inl ⟨List.length_eq_zero_iff.1 (by omega), _, _, by rw [h1]⟩
  · rw [if_neg (by omega)]
    rcases hr with ⟨hz, _⟩ | ⟨_, b2, o2, c2, hv2, hlt, hcl⟩
    · rw [hz] at hn; simp at hn; omega
    · injection hv2 with e4 _ _
      injection e4 with e4
      injection e4 with e4 e5 _
      subst e4; subst e5
      refine .inr ⟨by omega, b, o + 1, _, by rw [hl], hlt, fun i hi => ?_⟩
      have := hcl (i + 1) (by omega)
      rw [Nat.add_assoc, Nat.add_comm 1 i, this]
      rw [nth_eq (by omega), nth_eq hi, List.getElem_drop]
      congr 2
      simp only [Nat.add_comm]

def ApPost (a : List ByteArray) (cs : List pl.Ch) (w : World) (e : Ending) (w' : World) : Prop :=
  ∃ v', e = .returned (.tuple #[v', .bool (pl.appG a cs)]) ∧ OStrs w.heap.size w' v' (pl.appD a cs) ∧ Below w.heap.size w w'
theorem ApPost.none {a : List ByteArray} {cs : List pl.Ch} {w w' : World} (h : pl.appR a cs = Option.none) (hb : Below w.heap.size w w') : ApPost a cs w (.returned (.tuple #[.slice Option.none 0 0, .bool false])) w' := by
  obtain ⟨h1, h2⟩ := pl.appD_none h
  exact ⟨_, by rw [h2], by rw [h1]; exact OStrs.nil _ _, hb⟩
theorem ApPost.some {a o : List ByteArray} {cs : List pl.Ch} {w w' : World} {v : Value} (h : pl.appR a cs = Option.some o) (hq : OStrs w.heap.size w' v o) (hb : Below w.heap.size w w') : ApPost a cs w (.returned (.tuple #[v, .bool true])) w' := by
  obtain ⟨h1, h2⟩ := pl.appD_some h
  exact ⟨_, by rw [h2], by rw [h1]; exact hq, hb⟩
theorem drop_drop1 (a : List ByteArray) (i : Nat) : (a.drop i).drop 1 = a.drop (i + 1) := by rw [List.drop_drop]

/-- the state of the program's loop -/
def RdAp (a : List ByteArray) (cs : List pl.Ch) (n D : Nat) (w : World) (av ov iv : Value) (wr : World) : Prop :=
  ∃ (i k : Nat) (out : List ByteArray), k ≤ n ∧ iv = .int .i64 k ∧ Hid (pl.ApSt a cs i k out) ∧ Hid (LStrs w av (a.drop i)) ∧ Hid (OStrs D wr ov out) ∧ Hid (Below D w wr)

set_option maxHeartbeats 8000000 in
theorem iApplyChanges_any (a : List ByteArray) (cs : List pl.Ch) (va v : Value) (w : World) (ha : LStrs w va a) (hr : RCh w v cs) (hla : a.length ≤ maxLen) (hza : ∀ i, i < a.length → (nth a i).size ≤ maxLen) (hsz : ∀ i, i < cs.length → (pl.nthH cs i).2.size ≤ maxLen) :
    Calls Try.prog 26 #[va, v] w (ApPost a cs w) := by
  obtain ⟨i0, hi, hz0, hz1, hz2⟩ := info_parts infoS
  have HA := Lib.hid ha
  have HR := Lib.hid hr
  have HSZ := Lib.hid hsz
  have HLA := Lib.hid hla
  have HZA := Lib.hid hza
  cases hva : pl.validLs a with
  | false =>
    have HVA := Lib.hid hva
    have HE := Lib.hid (pl.appR_bad (cs := cs) (.inl hva))
    clear ha hr hsz hla hza hva
    go_enter Try.func26, Try.ntmps26
    go_wp2_with fail
    refine (ivalidLines_any a va _ HA.out.1 HLA.out HZA.out).mono ?_
    rintro e w1 ⟨rfl, hb1⟩
    rw [HVA.out]
    have HB1 := Lib.hid hb1
    clear hb1
    go_wp2_with fail
    go_ret2
    exact ApPost.none HE.out HB1.out
  | true =>
  cases hvc : pl.vCh cs with
  | false =>
    have HVA := Lib.hid hva
    have HVC := Lib.hid hvc
    have HE := Lib.hid (pl.appR_bad (a := a) (.inr hvc))
    clear ha hr hsz hla hza hva hvc
    go_enter Try.func26, Try.ntmps26
    go_wp2_with fail
    refine (ivalidLines_any a va _ HA.out.1 HLA.out HZA.out).mono ?_
    rintro e w1 ⟨rfl, hb1⟩
    rw [HVA.out]
    have HB1 := Lib.hid hb1
    have HR1 := Lib.hid (HR.out.below (Nat.le_refl _) hb1)
    clear hb1
    go_wp2_with fail
    refine (ivalidChanges_any cs v _ HR1.out HSZ.out).mono ?_
    rintro e w2 ⟨rfl, hb2⟩
    rw [HVC.out]
    have HB2 := Lib.hid (HB1.out.trans (hb2.mono HB1.out.size))
    clear hb2
    go_wp2_with fail
    go_ret2
    exact ApPost.none HE.out HB2.out
  | true =>
    have HVA := Lib.hid hva
    have HVC := Lib.hid hvc
    have HK := Lib.hid (fun (i : Nat) (h : i < cs.length) => pl.vCh_at hvc h)
    have hn40 := (pl.vCh_parts hvc).1
    have hm20 := pl.validLs_len hva
    obtain ⟨a0, c0, rfl⟩ := hr.slice
    obtain ⟨n, HN⟩ : ∃ n, Hid (n = cs.length) := ⟨_, Lib.hid rfl⟩
    rw [← HN.out] at HR hn40 ⊢
    clear ha hr hsz hla hza hva hvc
    go_enter Try.func26, Try.ntmps26
    go_wp2_with fail
    refine (ivalidLines_any a va _ HA.out.1 HLA.out HZA.out).mono ?_
    rintro e w1 ⟨rfl, hb1⟩
    rw [HVA.out]
    have HB1 := Lib.hid hb1
    have HR1 := Lib.hid (HR.out.below (Nat.le_refl _) hb1)
    have HA1 := Lib.hid (HA.out.below (Nat.le_refl _) hb1)
    clear hb1
    go_wp2_with fail
    refine (ivalidChanges_any cs _ _ HR1.out HSZ.out).mono ?_
    rintro e w2 ⟨rfl, hb2⟩
    rw [HVC.out]
    have HB2 := Lib.hid (HB1.out.trans (hb2.mono HB1.out.size))
    have HR2 := Lib.hid (HR1.out.below (Nat.le_refl _) hb2)
    have HA2 := Lib.hid (HA1.out.below (Nat.le_refl _) hb2)
    clear hb2
    go_wp2_with fail
    obtain ⟨D, HD⟩ : ∃ D, Hid (w2.heap.size = D) := ⟨_, Lib.hid rfl⟩
    have hwD : w.heap.size ≤ D := by rw [← HD.out]; exact HB2.out.size
    have hst := Lib.hid (pl.ap_start a cs)
    go_loopw [0, 6, 19] (fun av ov iv wr => RdAp a cs n D w2 av ov iv wr) (fun _ _ iv _ => n - (intOf iv).toNat)
    case atStart => exact ⟨0, 0, [], Nat.zero_le _, rfl, hst, HA2, Lib.hid (OStrs.nil _ _), Lib.hid (Below.refl _ _)⟩
    case round =>
      obtain ⟨i, k, out, hk, rfl, HS, HAV, HO, HB⟩ := hrel
      have hDw : D ≤ wr.heap.size := by have := HB.out.size; rw [HD.out] at this; exact this
      by_cases hlt : k < n
      · obtain ⟨b, o, rfl, hbw, c1, c2⟩ := HR2.out.at HN.out (by rw [HD.out]; exact HB.out) hlt
        have hlc : k < cs.length := by rw [← HN.out]; exact hlt
        have HLC := Lib.hid hlc
        obtain ⟨hk0, hk2, hl120, hvl⟩ := HK.out k hlc
        obtain ⟨kd, HKD⟩ : ∃ kd, Hid ((pl.nthH cs k).1 = kd) := ⟨_, Lib.hid rfl⟩
        obtain ⟨ln, HLn⟩ : ∃ ln, Hid ((pl.nthH cs k).2 = ln) := ⟨_, Lib.hid rfl⟩
        have HNE : Hid (pl.nthH cs k = (kd, ln)) := Lib.hid (by rw [← HKD.out, ← HLn.out])
        rw [HKD.out] at c1 hk0 hk2
        rw [HLn.out] at c2 hl120 hvl
        have HVL := Lib.hid hvl
        have hbA : Below wr.heap.size wr (wr.alloc (.cells #[.int .i64 kd, .string ln] 79)) := (Below.refl _ _).alloc (Nat.le_refl _) _
        have HOA := Lib.hid (HO.out.below (Nat.le_refl _) hbA)
        have HBA := Lib.hid (HB.out.alloc hDw (.cells #[.int .i64 kd, .string ln] 79))
        have HAA := Lib.hid (HAV.out.below (Nat.le_of_eq HD.out) HBA.out)
        have HOL : Hid (out.length ≤ 40) := Lib.hid (by have := HS.out.2.1; omega)
        have hx0 : (wr.alloc (.cells #[.int .i64 kd, .string ln] 79)).cell? ⟨wr.heap.size, 0, none⟩ = some (.int .i64 kd) := by simp
        have hx1 : (wr.alloc (.cells #[.int .i64 kd, .string ln] 79)).cell? ⟨wr.heap.size, 1, none⟩ = some (.string ln) := by simp
        have hDA : D ≤ (wr.alloc (.cells #[.int .i64 kd, .string ln] 79)).heap.size := by simp; omega
        have HX0 := Lib.hid hx0
        have HX1 := Lib.hid hx1
        clear hbA hlc hvl hx0 hx1
        go_upto_region 7 with (fail)
        obtain ⟨wA, HWA⟩ : ∃ wA, Hid (wr.alloc (.cells #[.int .i64 kd, .string ln] 79) = wA) := ⟨_, Lib.hid rfl⟩
        rw [HWA.out] at HOA HAA HBA HX0 HX1 hDA ⊢
        obtain ⟨x, HX⟩ : ∃ x, Hid (wr.heap.size = x) := ⟨_, Lib.hid rfl⟩
        rw [HX.out] at HX0 HX1 ⊢
        clear HO HB
        have hx0 := HX0.out
        have hx1 := HX1.out
        by_cases h2 : kd = 2
        · subst h2
          have HS2 := Lib.hid (pl.ap_add HS.out HLC.out HNE.out HVL.out)
          go_wp2_with (at_builtin; refine wpList_append_own _ rfl _ _ 23 rfl D 9 i0 (.string ByteArray.empty) 1 16 Try.underlying23 hi hz0 hz1 hz2 rfl (by decide) _ _ _ rfl (World.ownsRow.alloc HOA.out _) ⟨wA.heap.size, 0, none⟩ 1 1 [.string ln] rfl rfl (cell_one_new _ _ _) (by intro u hu; simp at hu; subst hu; rfl) (by have := HOL.out; unfold maxLen; omega) (by have := HOL.out; omega) (by simp; omega) ?_)
          intro v8 w8 hown8 hgrow8 _
          have HO8 := Lib.hid (OStrs.push1 hown8)
          have HB8 := Lib.hid ((HBA.out.alloc hDA _).grown hgrow8 (by simp; omega) (fun g hg => (World.ownsRow.lt HOA.out g hg).1))
          clear hown8 hgrow8 hx0 hx1
          go_wp2
          go_roundw
          case rel => exact ⟨i, k + 1, _, by omega, by go_num, HS2, HAV, HO8, HB8⟩
          case measure => simp [intOf]; omega
        · obtain ⟨A, cap, hav, hcap⟩ := HAV.out.2
          obtain ⟨L, HLL⟩ : ∃ L, Hid (L = (a.drop i).length) := ⟨_, Lib.hid rfl⟩
          rw [← HLL.out] at hav hcap
          subst hav
          have hLi : L = a.length - i := by rw [HLL.out, List.length_drop]
          have h2' : (kd != 2) = true := by simp [h2]
          by_cases hi : i < a.length
          · have HI := Lib.hid hi
            have hL0 : 0 < L := by omega
            obtain ⟨b1, o1, rfl, hc⟩ := HAA.out.1.at HLL.out (Below.refl _ _) hL0
            have hxe : nth (a.drop i) 0 = nth a i := by rw [nth_eq (by rw [← HLL.out]; exact hL0), nth_eq hi, List.getElem_drop]; rfl
            rw [hxe] at hc
            obtain ⟨y, HY⟩ : ∃ y, Hid (nth a i = y) := ⟨_, Lib.hid rfl⟩
            rw [HY.out] at hc
            have hc' : wA.cell? ⟨b1, o1, none⟩ = some (.string y) := hc
            have hLz : ((L : Int) == 0) = false := beq_eq_false_iff_ne.2 (by omega)
            have hL1 : (1 : Int) ≤ (L : Int) := by omega
            have hL2 : (L : Int) ≤ (cap : Int) := by omega
            have hL3 : (0 : Int) < (L : Int) := by omega
            clear hxe hc hLi hi
            by_cases e : y = ln
            · subst e
              have hss : (y.toList != y.toList) = false := by simp
              have HT := Lib.hid (LStrs.tail HAV.out HLL.out hL0)
              rw [drop_drop1] at HT
              go_wp2_with fail
              go_quiet (fail)
              have HOq := Lib.hid (HOA.out.below (Nat.le_refl _) (below_drewN (n := nq)))
              have HBq := Lib.hid (HBA.out.trans (below_drewN (n := nq)))
              have hx0q : (wA.drewN nq).cell? ⟨x, 0, none⟩ = some (.int .i64 kd) := hx0
              have hx1q : (wA.drewN nq).cell? ⟨x, 1, none⟩ = some (.string y) := hx1
              have hDq : D ≤ (wA.drewN nq).heap.size := hDA
              clear hx0 hx1 hc'
              obtain ⟨wq, HWQ⟩ : ∃ wq, Hid (wA.drewN nq = wq) := ⟨_, Lib.hid rfl⟩
              rw [HWQ.out] at HOq HBq hx0q hx1q hDq ⊢
              go_upto_region 11 with (fail)
              obtain ⟨rv, HRV⟩ : ∃ rv, Hid (Value.slice (if cap = 1 then some ⟨b1, o1, none⟩ else some ⟨b1, o1 + 1, none⟩) (L - 1) (cap - 1) = rv) := ⟨_, Lib.hid rfl⟩
              rw [HRV.out] at HT ⊢
              by_cases h1 : kd = 1
              · subst h1
                have HS2 := Lib.hid (pl.ap_drop HS.out HLC.out HNE.out HI.out HY.out)
                go_wp2_with fail
                go_roundw
                case rel => exact ⟨i + 1, k + 1, _, by omega, by go_num, HS2, HT, HOq, HBq⟩
                case measure => simp [intOf]; omega
              · have h1' : (kd != 1) = true := by simp [h1]
                have HS2 := Lib.hid (pl.ap_keep HS.out HLC.out HNE.out h2 h1 HI.out HY.out HVL.out)
                go_wp2_with (at_builtin; refine wpList_append_own _ rfl _ _ 23 rfl D 9 i0 (.string ByteArray.empty) 1 16 Try.underlying23 hi hz0 hz1 hz2 rfl (by decide) _ _ _ rfl (World.ownsRow.alloc HOq.out _) ⟨wq.heap.size, 0, none⟩ 1 1 [.string y] rfl rfl (cell_one_new _ _ _) (by intro u hu; simp at hu; subst hu; rfl) (by have := HOL.out; unfold maxLen; omega) (by have := HOL.out; omega) (by simp; omega) ?_)
                intro v8 w8 hown8 hgrow8 _
                have HO8 := Lib.hid (OStrs.push1 hown8)
                have HB8 := Lib.hid ((HBq.out.alloc hDq _).grown hgrow8 (by simp; omega) (fun g hg => (World.ownsRow.lt HOq.out g hg).1))
                clear hown8 hgrow8 hx0q hx1q
                go_wp2
                go_roundw
                case rel => exact ⟨i + 1, k + 1, _, by omega, by go_num, HS2, HT, HO8, HB8⟩
                case measure => simp [intOf]; omega
            · have hne := toList_ne e
              have HE := Lib.hid (pl.appR_none (pl.ap_wrong HS.out HLC.out HNE.out h2 HI.out HY.out e))
              have HBr := Lib.hid (HB2.out.trans (HBA.out.mono hwD))
              clear e
              go_wp2_with fail
              go_quiet (fail)
              go_wp2_with fail
              go_ret2
              exact ApPost.none HE.out (HBr.out.trans below_drewN)
          · have HE := Lib.hid (pl.appR_none (pl.ap_none HS.out HLC.out HNE.out h2 hi))
            have HBr := Lib.hid (HB2.out.trans (HBA.out.mono hwD))
            obtain rfl : L = 0 := by omega
            clear hi hLi
            go_wp2_with fail
            go_quiet (fail)
            go_wp2_with fail
            go_ret2
            exact ApPost.none HE.out (HBr.out.trans below_drewN)
      · obtain rfl : k = n := by omega
        obtain ⟨A, cap, hav, hcap⟩ := HAV.out.2
        obtain ⟨L, HLL⟩ : ∃ L, Hid (L = (a.drop i).length) := ⟨_, Lib.hid rfl⟩
        rw [← HLL.out] at hav hcap
        subst hav
        have hLi : L = a.length - i := by rw [HLL.out, List.length_drop]
        have hS2 := HS.out
        rw [HN.out] at hS2
        have HBr := Lib.hid (HB2.out.trans (HB.out.mono hwD))
        by_cases hi : i < a.length
        · have HE := Lib.hid (pl.appR_none (pl.ap_left hS2 hi))
          have hL3 : (0 : Int) < (L : Int) := by omega
          clear hS2 hi hLi
          go_wp2_with fail
          go_ret2
          exact ApPost.none HE.out HBr.out
        · have hdn := pl.ap_done hS2 hi
          obtain rfl : L = 0 := by omega
          obtain ⟨Ao, co, hov, _⟩ := HO.out.lreads.2
          obtain ⟨M, HM⟩ : ∃ M, Hid (M = out.length) := ⟨_, Lib.hid rfl⟩
          rw [← HM.out] at hov
          subst hov
          by_cases hlong : 20 < M
          · have HE := Lib.hid (pl.appR_long hdn (by rw [← HM.out]; exact hlong))
            have hl : (20 : Int) < (M : Int) := by omega
            clear hS2 hi hLi hdn
            go_wp2_with fail
            go_ret2
            exact ApPost.none HE.out HBr.out
          · have HE := Lib.hid (pl.appR_some HVA.out HVC.out hdn (by rw [← HM.out]; omega))
            have hl : ¬ (20 : Int) < (M : Int) := by omega
            clear hS2 hi hLi hdn
            go_wp2_with fail
            go_ret2
            exact ApPost.some HE.out (HO.out.mono hwD) HBr.out

/-- the state of the model's loop -/
def RdAs (a : List ByteArray) (cs : List pl.Ch) (n D : Nat) (w : World) (ov iv kv : Value) (wr : World) : Prop :=
  ∃ (i k : Nat) (out : List ByteArray), k ≤ n ∧ kv = .int .i64 k ∧ iv = .int .i64 i ∧ Hid (pl.ApSt a cs i k out) ∧ Hid (OStrs D wr ov out) ∧ Hid (Below D w wr)

set_option maxHeartbeats 8000000 in
theorem sApplyChanges_any (a : List ByteArray) (cs : List pl.Ch) (va v : Value) (w : World) (ha : RStrs w va a) (hr : RCh w v cs) (hla : a.length ≤ maxLen) (hza : ∀ i, i < a.length → (nth a i).size ≤ maxLen) (hlc : cs.length ≤ maxLen) (hsz : ∀ i, i < cs.length → (pl.nthH cs i).2.size ≤ maxLen) :
    Calls Try.prog 27 #[va, v] w (ApPost a cs w) := by
  obtain ⟨i0, hi, hz0, hz1, hz2⟩ := info_parts infoS
  have HA := Lib.hid ha
  have HR := Lib.hid hr
  have HSZ := Lib.hid hsz
  have HLA := Lib.hid hla
  have HZA := Lib.hid hza
  have HLCS := Lib.hid hlc
  cases hva : pl.validLs a with
  | false =>
    have HVA := Lib.hid hva
    have HE := Lib.hid (pl.appR_bad (cs := cs) (.inl hva))
    clear ha hr hsz hla hza hva hlc
    go_enter Try.func27, Try.ntmps27
    go_wp2_with fail
    refine (svalidLines_any a va _ HA.out HLA.out HZA.out).mono ?_
    rintro e w' ⟨rfl, rfl⟩
    rw [HVA.out]
    go_wp2_with fail
    go_ret2
    exact ApPost.none HE.out (Below.refl _ _)
  | true =>
  cases hvc : pl.vCh cs with
  | false =>
    have HVA := Lib.hid hva
    have HVC := Lib.hid hvc
    have HE := Lib.hid (pl.appR_bad (a := a) (.inr hvc))
    clear ha hr hsz hla hza hva hvc hlc
    go_enter Try.func27, Try.ntmps27
    go_wp2_with fail
    refine (svalidLines_any a va _ HA.out HLA.out HZA.out).mono ?_
    rintro e w' ⟨rfl, rfl⟩
    rw [HVA.out]
    go_wp2_with fail
    refine (svalidChanges_any cs v _ HR.out HLCS.out HSZ.out).mono ?_
    rintro e w' ⟨rfl, rfl⟩
    rw [HVC.out]
    go_wp2_with fail
    go_ret2
    exact ApPost.none HE.out (Below.refl _ _)
  | true =>
    have HVA := Lib.hid hva
    have HVC := Lib.hid hvc
    have HK := Lib.hid (fun (i : Nat) (h : i < cs.length) => pl.vCh_at hvc h)
    have hn40 := (pl.vCh_parts hvc).1
    have hm20 := pl.validLs_len hva
    obtain ⟨a0, c0, rfl⟩ := hr.slice
    obtain ⟨aa, ca, rfl⟩ := ha.slice
    obtain ⟨n, HN⟩ : ∃ n, Hid (n = cs.length) := ⟨_, Lib.hid rfl⟩
    obtain ⟨m, HM⟩ : ∃ m, Hid (m = a.length) := ⟨_, Lib.hid rfl⟩
    rw [← HN.out] at HR hn40 ⊢
    rw [← HM.out] at HA hm20 ⊢
    clear ha hr hsz hla hza hva hvc hlc
    go_enter Try.func27, Try.ntmps27
    go_wp2_with fail
    refine (svalidLines_any a _ _ HA.out HLA.out HZA.out).mono ?_
    rintro e w' ⟨rfl, rfl⟩
    rw [HVA.out]
    go_wp2_with fail
    refine (svalidChanges_any cs _ _ HR.out HLCS.out HSZ.out).mono ?_
    rintro e w' ⟨rfl, rfl⟩
    rw [HVC.out]
    go_wp2_with fail
    have HO0 : Hid (OStrs w.heap.size (w.alloc (.cells #[] 9)) (.slice (some ⟨w.heap.size, 0, none⟩) 0 0) []) := Lib.hid (World.ownsRow_made _ _ _ (Nat.le_refl _) (by unfold maxLen; omega) rfl)
    have HB0 : Hid (Below w.heap.size w (w.alloc (.cells #[] 9))) := Lib.hid ((Below.refl _ _).alloc (Nat.le_refl _) _)
    obtain ⟨w0, HW0⟩ : ∃ w0, Hid (w.alloc (.cells #[] 9) = w0) := ⟨_, Lib.hid rfl⟩
    rw [HW0.out] at HO0 HB0 ⊢
    obtain ⟨D, HD⟩ : ∃ D, Hid (w.heap.size = D) := ⟨_, Lib.hid rfl⟩
    rw [HD.out] at HO0 HB0 ⊢
    have hst := Lib.hid (pl.ap_start a cs)
    go_loopw [6, 7, 8] (fun ov iv kv wr => RdAs a cs n D w ov iv kv wr) (fun _ _ kv _ => n - (intOf kv).toNat)
    case atStart => exact ⟨0, 0, [], Nat.zero_le _, rfl, rfl, hst, HO0, HB0⟩
    case round =>
      obtain ⟨i, k, out, hk, rfl, rfl, HS, HO, HB⟩ := hrel
      have hDw : D ≤ wr.heap.size := by have := HB.out.size; rw [HD.out] at this; exact this
      have him : i ≤ m := by rw [HM.out]; exact HS.out.2.2.1
      by_cases hlt : k < n
      · obtain ⟨b, o, rfl, hbw, c1, c2⟩ := HR.out.at HN.out (by rw [HD.out]; exact HB.out) hlt
        have hlc : k < cs.length := by rw [← HN.out]; exact hlt
        have HLC := Lib.hid hlc
        obtain ⟨hk0, hk2, hl120, hvl⟩ := HK.out k hlc
        obtain ⟨kd, HKD⟩ : ∃ kd, Hid ((pl.nthH cs k).1 = kd) := ⟨_, Lib.hid rfl⟩
        obtain ⟨ln, HLn⟩ : ∃ ln, Hid ((pl.nthH cs k).2 = ln) := ⟨_, Lib.hid rfl⟩
        have HNE : Hid (pl.nthH cs k = (kd, ln)) := Lib.hid (by rw [← HKD.out, ← HLn.out])
        rw [HKD.out] at c1 hk0 hk2
        rw [HLn.out] at c2 hl120 hvl
        have HVL := Lib.hid hvl
        have HOL : Hid (out.length ≤ 40) := Lib.hid (by have := HS.out.2.1; omega)
        clear hlc hvl
        by_cases h2 : kd = 2
        · subst h2
          have HS2 := Lib.hid (pl.ap_add HS.out HLC.out HNE.out HVL.out)
          go_wp2_with (at_builtin; refine wpList_append_own _ rfl _ _ 23 rfl D 9 i0 (.string ByteArray.empty) 1 16 Try.underlying23 hi hz0 hz1 hz2 rfl (by decide) _ _ _ rfl (World.ownsRow.alloc HO.out _) ⟨wr.heap.size, 0, none⟩ 1 1 [.string ln] rfl rfl (cell_one_new _ _ _) (by intro u hu; simp at hu; subst hu; rfl) (by have := HOL.out; unfold maxLen; omega) (by have := HOL.out; omega) (by simp; omega) ?_)
          intro v8 w8 hown8 hgrow8 _
          have HO8 := Lib.hid (OStrs.push1 hown8)
          have HB8 := Lib.hid ((HB.out.alloc hDw _).grown hgrow8 (by simp; omega) (fun g hg => (World.ownsRow.lt HO.out g hg).1))
          clear hown8 hgrow8
          go_wp2
          go_roundw
          case rel => exact ⟨i, k + 1, _, by omega, by go_num, rfl, HS2, HO8, HB8⟩
          case measure => simp [intOf]; omega
        · have h2' : (kd != 2) = true := by simp [h2]
          by_cases hil : i < m
          · have HI : Hid (i < a.length) := Lib.hid (by rw [← HM.out]; exact hil)
            obtain ⟨b1, o1, rfl, hc⟩ := HA.out.at HM.out (by rw [HD.out]; exact HB.out) hil
            obtain ⟨y, HY⟩ : ∃ y, Hid (nth a i = y) := ⟨_, Lib.hid rfl⟩
            rw [HY.out] at hc
            have hiz : ((i : Int) == (m : Int)) = false := beq_eq_false_iff_ne.2 (by omega)
            by_cases e : y = ln
            · subst e
              go_wp2_with fail
              go_quiet (fail)
              have HOq := Lib.hid (HO.out.below (Nat.le_refl _) (below_drewN (n := nq)))
              have HBq := Lib.hid (HB.out.trans (below_drewN (n := nq)))
              have c1q : (wr.drewN nq).cell? ⟨b, o + k * 2, none⟩ = some (.int .i64 kd) := c1
              have c2q : (wr.drewN nq).cell? ⟨b, o + k * 2 + 1, none⟩ = some (.string y) := c2
              have hDq : D ≤ (wr.drewN nq).heap.size := hDw
              clear c1 c2 hc
              obtain ⟨wq, HWQ⟩ : ∃ wq, Hid (wr.drewN nq = wq) := ⟨_, Lib.hid rfl⟩
              rw [HWQ.out] at HOq HBq c1q c2q hDq ⊢
              by_cases h1 : kd = 1
              · subst h1
                have HS2 := Lib.hid (pl.ap_drop HS.out HLC.out HNE.out HI.out HY.out)
                go_wp2_with fail
                go_roundw
                case rel => exact ⟨i + 1, k + 1, _, by omega, by go_num, by go_num, HS2, HOq, HBq⟩
                case measure => simp [intOf]; omega
              · have h1' : (kd != 1) = true := by simp [h1]
                have HS2 := Lib.hid (pl.ap_keep HS.out HLC.out HNE.out h2 h1 HI.out HY.out HVL.out)
                go_wp2_with (at_builtin; refine wpList_append_own _ rfl _ _ 23 rfl D 9 i0 (.string ByteArray.empty) 1 16 Try.underlying23 hi hz0 hz1 hz2 rfl (by decide) _ _ _ rfl (World.ownsRow.alloc HOq.out _) ⟨wq.heap.size, 0, none⟩ 1 1 [.string y] rfl rfl (cell_one_new _ _ _) (by intro u hu; simp at hu; subst hu; rfl) (by have := HOL.out; unfold maxLen; omega) (by have := HOL.out; omega) (by simp; omega) ?_)
                intro v8 w8 hown8 hgrow8 _
                have HO8 := Lib.hid (OStrs.push1 hown8)
                have HB8 := Lib.hid ((HBq.out.alloc hDq _).grown hgrow8 (by simp; omega) (fun g hg => (World.ownsRow.lt HOq.out g hg).1))
                clear hown8 hgrow8
                go_wp2
                go_roundw
                case rel => exact ⟨i + 1, k + 1, _, by omega, by go_num, by go_num, HS2, HO8, HB8⟩
                case measure => simp [intOf]; omega
            · have hne := toList_ne e
              have HE := Lib.hid (pl.appR_none (pl.ap_wrong HS.out HLC.out HNE.out h2 HI.out HY.out e))
              have HBr : Hid (Below w.heap.size w wr) := Lib.hid (by rw [HD.out]; exact HB.out)
              clear e
              go_wp2_with fail
              go_quiet (fail)
              go_wp2_with fail
              go_ret2
              exact ApPost.none HE.out (HBr.out.trans below_drewN)
          · have HE := Lib.hid (pl.appR_none (pl.ap_none HS.out HLC.out HNE.out h2 (by rw [← HM.out]; exact hil)))
            have HBr : Hid (Below w.heap.size w wr) := Lib.hid (by rw [HD.out]; exact HB.out)
            obtain rfl : i = m := by omega
            have hiz : ((i : Int) == (i : Int)) = true := by simp
            clear hil
            go_wp2_with fail
            go_quiet (fail)
            go_wp2_with fail
            go_ret2
            exact ApPost.none HE.out (HBr.out.trans below_drewN)
      · obtain rfl : k = n := by omega
        have hS2 := HS.out
        rw [HN.out] at hS2
        have HBr : Hid (Below w.heap.size w wr) := Lib.hid (by rw [HD.out]; exact HB.out)
        by_cases hil : i < m
        · have HE := Lib.hid (pl.appR_none (pl.ap_left hS2 (by rw [← HM.out]; exact hil)))
          have hL3 : (i : Int) < (m : Int) := by omega
          clear hS2
          go_wp2_with fail
          go_ret2
          exact ApPost.none HE.out HBr.out
        · have hdn := pl.ap_done hS2 (by rw [← HM.out]; exact hil)
          have HV := Lib.hid (pl.ap_valid HS.out)
          have HOL : Hid (out.length ≤ 40) := Lib.hid (by have := HS.out.2.1; omega)
          have HOZ : Hid (∀ j, j < out.length → (nth out j).size ≤ maxLen) := Lib.hid (fun j hj => by
            have := pl.validT_size (HS.out.2.2.2 (nth out j) (by rw [nth_eq hj]; exact List.getElem_mem _))
            unfold maxLen; omega)
          have HRo := Lib.hid HO.out.reads
          by_cases hlong : 20 < out.length
          · have HE := Lib.hid (pl.appR_long hdn hlong)
            have HVF : Hid (pl.validLs out = false) := Lib.hid (by rw [HV.out]; exact decide_eq_false (by omega))
            clear hS2 hdn hlong
            go_wp2_with fail
            refine (svalidLines_any out _ _ HRo.out (by have := HOL.out; unfold maxLen; omega) HOZ.out).mono ?_
            rintro e w' ⟨rfl, rfl⟩
            rw [HVF.out]
            go_wp2_with fail
            go_ret2
            exact ApPost.none HE.out HBr.out
          · have HE := Lib.hid (pl.appR_some HVA.out HVC.out hdn (by omega))
            have HVF : Hid (pl.validLs out = true) := Lib.hid (by rw [HV.out]; exact decide_eq_true (by omega))
            have HOD : Hid (OStrs w.heap.size wr u6 out) := Lib.hid (by rw [HD.out]; exact HO.out)
            clear hS2 hdn hlong
            go_wp2_with fail
            refine (svalidLines_any out _ _ HRo.out (by have := HOL.out; unfold maxLen; omega) HOZ.out).mono ?_
            rintro e w' ⟨rfl, rfl⟩
            rw [HVF.out]
            go_wp2_with fail
            go_ret2
            exact ApPost.some HE.out HOD.out HBr.out
end Go.Proofs.Ytckfpneooknifaa
