/- Contracts: TurnRows of both sides. -/
import Derived.Test.YtgfpbnafehpopaaCol
namespace Go.Proofs.Ytgfpbnafehpopaa
open Go.RowKit
set_option maxRecDepth 100000
set_option linter.unusedVariables false

namespace pl
theorem turnR_le {ps : Gs} (h : vRows ps = true) (h5 : ps.length ≤ 5) : turnR ps = turnL ps := by
  by_cases h0 : ps.length = 0
  · have e1 : turnB ps = false := by unfold turnB; rw [inR_false (by omega), Bool.and_false]
    have e2 : turnL ps = [] := List.length_eq_zero_iff.1 (by rw [turnL_len, colsN_nil h0])
    rw [turnR_no e1, e2]
  · have e1 : turnB ps = true := by unfold turnB; rw [h, inR_true (by omega) (by omega)]; rfl
    exact turnR_yes e1
theorem turnB_rows {ps : Gs} (h : vRows ps = false) : turnB ps = false := by unfold turnB; rw [h]; rfl
theorem turnB_big {ps : Gs} (h : 5 < ps.length) : turnB ps = false := by unfold turnB; rw [inR_false (by omega), Bool.and_false]
theorem turnB_none {ps : Gs} (h : ps.length = 0) : turnB ps = false := by unfold turnB; rw [inR_false (by omega), Bool.and_false]
theorem totTo_le_mul {ps : Gs} {M : Nat} : ∀ k, (∀ i, i < k → (nthP ps i).length ≤ M) → totTo ps k ≤ M * k
  | 0, _ => by simp [totTo]
  | k + 1, h => by
    rw [totTo_succ, Nat.mul_succ]
    have := totTo_le_mul k (fun i hi => h i (by omega))
    have := h k (by omega)
    omega
theorem turnR_bd (ps : Gs) : (turnR ps).length ≤ 1000 ∧ totTo (turnR ps) (turnR ps).length ≤ 1000000 ∧ ∀ k, k < (turnR ps).length → (nthP (turnR ps) k).length ≤ 1000000 := by
  by_cases h : turnB ps = true
  · obtain ⟨hv, h1, h5⟩ := turnB_parts h
    rw [turnR_yes h]
    have hc := vRows_cols hv
    have hr : ∀ k, k < (turnL ps).length → (nthP (turnL ps) k).length ≤ 5 := fun k hk => by
      rw [turnL_len] at hk
      rw [turnL_nth hk, colL_len]; exact h5
    have ht := totTo_le_mul (ps := turnL ps) (M := 5) _ hr
    rw [turnL_len] at ht hr ⊢
    exact ⟨by omega, by omega, fun k hk => by have := hr k hk; omega⟩
  · rw [turnR_no (by simpa using h)]
    exact ⟨by simp, by simp [totTo], fun k hk => by simp at hk⟩
theorem take_nth {l : List ByteArray} {j : Nat} (h : j < l.length) : l.take j ++ [nth l j] = l.take (j + 1) := by
  rw [List.take_succ_eq_append_getElem h, nth_eq h]
theorem take_nthP {ps : Gs} {j : Nat} (h : j < ps.length) : ps.take j ++ [nthP ps j] = ps.take (j + 1) := by
  rw [List.take_succ_eq_append_getElem h, nthP_eq h]
end pl

set_option maxHeartbeats 4000000 in
theorem iTurnRows_any (ps : pl.Gs) (v : Value) (w : World) (hr : RPs w v ps) (hs : Small ps) :
    Calls Try.prog 27 #[v] w fun e w' => ∃ v', e = .returned v' ∧ HPs w.heap.size w' v' (pl.turnR ps) ∧ Below w.heap.size w w' := by
  obtain ⟨j0, hj, hy0, hy1, hy2⟩ := info_parts infoSS
  have HS := Lib.hid hs
  have HR := Lib.hid hr
  obtain ⟨n, HN⟩ : ∃ n, Hid (n = ps.length) := ⟨_, Lib.hid rfl⟩
  have hnl := hs.len
  obtain ⟨a0, cap0, rfl⟩ := hr.slice
  rw [← HN.out] at HR hnl ⊢
  clear hr hs
  go_enter Try.func27, Try.ntmps27
  go_wp2_with fail
  refine (iValidRows_any ps _ _ HR.out HS.out).mono ?_
  rintro e w1 ⟨rfl, hb1⟩
  have HB1 := Lib.hid hb1
  clear hb1
  cases hv : pl.vRows ps with
  | false =>
    have HC := Lib.hid (pl.turnR_no (pl.turnB_rows hv))
    clear hv
    go_wp2_with fail
    go_ret
    exact ⟨_, rfl, by rw [HC.out]; exact HPs.nil _ _, HB1.out⟩
  | true =>
    have HV := Lib.hid hv
    clear hv
    by_cases h5 : 5 < n
    · have HC := Lib.hid (pl.turnR_no (pl.turnB_big (ps := ps) (by rw [← HN.out]; exact h5)))
      go_wp2_with fail
      go_ret
      exact ⟨_, rfl, by rw [HC.out]; exact HPs.nil _ _, HB1.out⟩
    · have HC := Lib.hid (pl.turnR_le HV.out (by rw [← HN.out]; omega))
      have HR1 := Lib.hid (HR.out.below (Nat.le_refl _) HB1.out)
      go_wp2_with fail
      refine (iCountColumns_any ps _ _ HR1.out (by rw [← HN.out]; omega)).mono ?_
      rintro e w' ⟨rfl, rfl⟩
      have hm5 := pl.vRows_cols HV.out
      have htl := pl.turnL_len ps
      obtain ⟨m, HM⟩ : ∃ m, Hid (pl.colsN ps = m) := ⟨_, Lib.hid rfl⟩
      obtain ⟨T, HT⟩ : ∃ T, Hid (pl.turnL ps = T) := ⟨_, Lib.hid rfl⟩
      rw [HM.out] at hm5 htl ⊢
      rw [HT.out] at htl HC
      have HTL := Lib.hid htl
      have hS1 : w.heap.size ≤ w1.heap.size := HB1.out.size
      clear htl
      go_wp2_with (at_make; refine wpList_make_full _ rfl _ _ 30 rfl w1.heap.size 27 j0 (.slice none 0 0) 1 Try.underlying30 hj hy0 hy1 _ _ _ _ m rfl rfl rfl rfl ?b1 ?b2 ?b3 ?_)
      case b1 => rw [hy2]; omega
      case b2 => unfold maxLen; omega
      case b3 => exact Nat.le_refl _
      intro w2 hown hgrow
      have hb2 : Below w1.heap.size w1 w2 := (Below.refl _ _).grown hgrow (Nat.le_refl _) (fun g hg => by cases hg)
      have HO2 : Hid (w2.ownsRow w1.heap.size 27 1 (.slice (some ⟨w1.heap.size, 0, none⟩) m m) m (List.replicate m (.slice none 0 0))) := Lib.hid (by
        rw [toList_madeCells_one] at hown; exact hown)
      have HB2 := Lib.hid hb2
      clear hown hgrow hb2
      go_wp2_with fail
      go_loopw [18] (fun iv wr => ∃ (k : Nat) (us : List Value), k ≤ m ∧ iv = .int .i64 k ∧ Hid (us.length = m) ∧ Hid (wr.ownsRow w1.heap.size 27 1 (.slice (some ⟨w1.heap.size, 0, none⟩) m m) m us) ∧ Hid (Inn w1.heap.size wr us (firstP k T)) ∧ Hid (Below w1.heap.size w1 wr)) (fun iv _ => m - (intOf iv).toNat)
      case atStart => exact ⟨0, _, Nat.zero_le _, rfl, Lib.hid List.length_replicate, HO2, Lib.hid (Inn.start HTL.out.symm), HB2⟩
      case round =>
        obtain ⟨k, us, hk, rfl, hul, HOWN, hinn, HBEL⟩ := hrel
        by_cases hlt : k < m
        · have hkc : Hid (k < pl.colsN ps) := Lib.hid (by rw [HM.out]; exact hlt)
          have hkT : Hid (k < T.length) := Lib.hid (by rw [HTL.out]; exact hlt)
          have HTK : Hid (pl.nthP T k = pl.colL ps k) := Lib.hid (by rw [← HT.out]; exact pl.turnL_nth hkc.out)
          have HR3 := Lib.hid (HR1.out.below (Nat.le_refl _) HBEL.out)
          go_wp2_with fail
          refine (iCellsBelow_at ps _ _ k (by first | rfl | go_num) _ HR3.out (by rw [← HN.out]; omega) (pl.rows_cut HV.out hkc.out) (by omega)).mono ?_
          rintro e w3 ⟨q, rfl, hoq, hbq⟩
          rw [← HTK.out] at hoq
          have HOWN2 := Lib.hid (own_keep HOWN.out (fun b hb => hbq.block b (World.ownsRow.lt HOWN.out b hb).2))
          have hB2 := Lib.hid (HBEL.out.trans (hbq.mono HBEL.out.size))
          obtain ⟨aq, cq, hq⟩ := hoq.reads.slice
          obtain ⟨M, HMM⟩ : ∃ M, Hid ((pl.nthP T k).length = M) := ⟨_, Lib.hid rfl⟩
          rw [HMM.out] at hq
          have HQ := Lib.hid hoq
          have HBQ := Lib.hid hbq
          have hx : w3.cell? ⟨w1.heap.size, k, none⟩ = some (nthV us k) := by
            rw [World.ownsRow.cellAt HOWN2.out k (by omega), nthV_eq (by rw [hul.out]; exact hlt), List.getElem?_eq_getElem (by rw [hul.out]; exact hlt)]
          have hf2 := World.ownsRow.frozenAt HOWN2.out k
          clear hoq hbq
          subst hq
          have hst := World.ownsRow.stored HOWN2.out k (.slice aq M cq)
          have HO3 := Lib.hid hst.1
          have HG3 := Lib.hid hst.2
          have HB3 := Lib.hid (hB2.out.setCell (p := ⟨w1.heap.size, k, none⟩) (Nat.le_refl _) (.slice aq M cq))
          have HI3 : Hid (Inn w1.heap.size (w3.setCell ⟨w1.heap.size, k, none⟩ (.slice aq M cq)) (us.set k (.slice aq M cq)) (firstP (k + 1) T)) := Lib.hid (Inn.fill hinn.out hkT.out (Nat.le_refl _) (fun i hi j b hj hb e => by
            subst e
            rw [HG3.out.block b (Nat.lt_of_lt_of_le hi HBQ.out.size) (fun e2 => types_apart HOWN.out (hinn.out.each j (by rw [← hinn.out.len]; exact hj)) (by decide) b e2.symm hb)]
            exact HBQ.out.block b hi)
            (own_keep HQ.out (fun b hb => HG3.out.block b (World.ownsRow.lt HQ.out b hb).2 (fun e2 => types_apart HOWN2.out HQ.out (by decide) b e2.symm hb))) HBEL.out.size)
          have hul2 : Hid ((us.set k (.slice aq M cq)).length = m) := Lib.hid (by rw [List.length_set]; exact hul.out)
          clear hst
          go_wp2_with fail
          go_roundw
          case rel => exact ⟨k + 1, _, by omega, by go_num, hul2, HO3, HI3, HB3⟩
          case measure => simp [intOf]; omega
        · obtain rfl : k = m := by omega
          have hall : Hid (firstP k T = T) := Lib.hid (by rw [← HTL.out]; exact firstP_all T)
          have HBE := Lib.hid (HB1.out.trans (HBEL.out.mono hS1))
          go_wp2_with fail
          go_ret
          exact ⟨_, rfl, ⟨us, by rw [HC.out]; exact OPs.mono ⟨by rw [hul.out]; exact HOWN.out, by rw [← hall.out]; exact hinn.out⟩ hS1⟩, HBE.out⟩

set_option maxHeartbeats 8000000 in
theorem sTurnRows_any (ps : pl.Gs) (v : Value) (w : World) (hr : RPs w v ps) (hs : Small ps) :
    Calls Try.prog 29 #[v] w fun e w' => ∃ v', e = .returned v' ∧ HPs w.heap.size w' v' (pl.turnR ps) ∧ Below w.heap.size w w' := by
  obtain ⟨i0, hi, hz0, hz1, hz2⟩ := info_parts infoS
  obtain ⟨j0, hj, hy0, hy1, hy2⟩ := info_parts infoSS
  have HS := Lib.hid hs
  have HR := Lib.hid hr
  obtain ⟨n, HN⟩ : ∃ n, Hid (n = ps.length) := ⟨_, Lib.hid rfl⟩
  have hnl := hs.len
  obtain ⟨a0, cap0, rfl⟩ := hr.slice
  rw [← HN.out] at HR hnl ⊢
  clear hr hs
  go_enter Try.func29, Try.ntmps29
  go_wp2_with fail
  refine (svalidRows_any ps _ _ HR.out HS.out).mono ?_
  rintro e w1 ⟨rfl, hb1⟩
  have HB1 := Lib.hid hb1
  clear hb1
  cases hv : pl.vRows ps with
  | false =>
    have HC := Lib.hid (pl.turnR_no (pl.turnB_rows hv))
    clear hv
    go_wp2_with fail
    go_ret
    exact ⟨_, rfl, by rw [HC.out]; exact HPs.nil _ _, HB1.out⟩
  | true =>
    have HV := Lib.hid hv
    clear hv
    cases hin : pl.inR (n : Int) 1 5 with
    | false =>
      have HC : Hid (pl.turnR ps = []) := Lib.hid (pl.turnR_no (by unfold pl.turnB; rw [← HN.out, hin, Bool.and_false]))
      have HIN := Lib.hid hin
      clear hin
      go_wp2_with fail
      refine (inRange_any _ _ _ _).mono ?_
      rintro e w' ⟨rfl, rfl⟩
      rw [HIN.out]
      go_wp2_with fail
      go_ret
      exact ⟨_, rfl, by rw [HC.out]; exact HPs.nil _ _, HB1.out⟩
    | true =>
      have hn5 : 1 ≤ n ∧ n ≤ 5 := by
        have : 1 ≤ (n : Int) ∧ (n : Int) ≤ 5 := by simpa [pl.inR] using hin
        omega
      have HIN := Lib.hid hin
      clear hin
      have HC := Lib.hid (pl.turnR_le HV.out (by rw [← HN.out]; omega))
      have HR1 := Lib.hid (HR.out.below (Nat.le_refl _) HB1.out)
      have hm5 := pl.vRows_cols HV.out
      have htl := pl.turnL_len ps
      obtain ⟨m, HM⟩ : ∃ m, Hid (pl.colsN ps = m) := ⟨_, Lib.hid rfl⟩
      obtain ⟨T, HT⟩ : ∃ T, Hid (pl.turnL ps = T) := ⟨_, Lib.hid rfl⟩
      rw [HM.out] at hm5 htl
      rw [HT.out] at htl HC
      have HTL := Lib.hid htl
      have hS1 : w.heap.size ≤ w1.heap.size := HB1.out.size
      clear htl
      have hpos : 0 < n := by omega
      obtain ⟨b1, o1, u, rfl, hb1, hc, hu⟩ := HR1.out.at HN.out (Below.refl _ _) hpos
      obtain ⟨au, cu, hvu⟩ := hu.1.slice
      have HM' : (pl.nthP ps 0).length = m := HM.out
      rw [HM'] at hvu
      subst hvu
      rw [Nat.add_zero] at hc
      have HC0 := Lib.hid hc
      have HBL := Lib.hid hb1
      clear hu hc hb1 HM'
      go_wp2_with fail
      refine (inRange_any _ _ _ _).mono ?_
      rintro e w' ⟨rfl, rfl⟩
      rw [HIN.out]
      go_wp2_with fail
      have HO0 : Hid (OPs w1.heap.size (w1.alloc (.cells #[] 27)) (.slice (some ⟨w1.heap.size, 0, none⟩) 0 0) [] (T.take 0)) := Lib.hid ⟨World.ownsRow_made _ _ _ (Nat.le_refl _) (by unfold maxLen; omega) rfl, Inn.nil _ _⟩
      have HB0 : Hid (Below w1.heap.size w1 (w1.alloc (.cells #[] 27))) := Lib.hid ((Below.refl _ _).alloc (Nat.le_refl _) _)
      go_loopw [3, 4] (fun ov iv wr => ∃ (k : Nat) (a : Option Addr) (cp : Nat) (us : List Value), k ≤ m ∧ iv = .int .i64 k ∧ ov = .slice a k cp ∧ Hid (OPs w1.heap.size wr (.slice a k cp) us (T.take k)) ∧ Hid (Below w1.heap.size w1 wr)) (fun _ iv _ => m - (intOf iv).toNat)
      case atStart => exact ⟨0, _, 0, [], Nat.zero_le _, rfl, rfl, HO0, HB0⟩
      case round =>
        obtain ⟨k, a, cp, us, hk, rfl, rfl, HO, HB⟩ := hrel
        have c0 := (HB.out.cell (p := ⟨b1, o1, none⟩) HBL.out).trans HC0.out
        by_cases hlt : k < m
        · have hkc : Hid (k < pl.colsN ps) := Lib.hid (by rw [HM.out]; exact hlt)
          have hkT : Hid (k < T.length) := Lib.hid (by rw [HTL.out]; exact hlt)
          have HTK : Hid (pl.nthP T k = pl.colL ps k) := Lib.hid (by rw [← HT.out]; exact pl.turnL_nth hkc.out)
          have HUL : Hid (us.length = k) := Lib.hid (HO.out.2.len.trans (by rw [List.length_take, HTL.out]; omega))
          have LT := Lib.hid HO.out.lt
          have hwr : w1.heap.size ≤ wr.heap.size := HB.out.size
          go_wp2_with fail
          have HO3 : Hid (OPs w1.heap.size (wr.alloc (.cells #[] 9)) (.slice a k cp) us (T.take k)) := Lib.hid (HO.out.below (Nat.le_refl _) ((Below.refl _ _).alloc (Nat.le_refl _) _))
          have HQ3 : Hid (OStrs wr.heap.size (wr.alloc (.cells #[] 9)) (.slice (some ⟨wr.heap.size, 0, none⟩) 0 0) ((pl.colL ps k).take 0)) := Lib.hid (World.ownsRow_made _ _ _ (Nat.le_refl _) (by unfold maxLen; omega) rfl)
          have HB3 : Hid (Below w1.heap.size w1 (wr.alloc (.cells #[] 9))) := Lib.hid (HB.out.alloc hwr _)
          have hS3 : wr.heap.size ≤ (wr.alloc (.cells #[] 9)).heap.size := by simp
          obtain ⟨w3, HW3⟩ : ∃ u, Hid (wr.alloc (.cells #[] 9) = u) := ⟨_, Lib.hid rfl⟩
          rw [HW3.out] at HO3 HQ3 HB3 hS3 ⊢
          obtain ⟨D, HD⟩ : ∃ D, Hid (wr.heap.size = D) := ⟨_, Lib.hid rfl⟩
          rw [HD.out] at HQ3 LT hwr hS3 ⊢
          clear HO HB c0
          go_loopw [5, 6] (fun cv jv wi => ∃ (j : Nat) (b : Option Addr) (cq : Nat), j ≤ n ∧ jv = .int .i64 j ∧ cv = .slice b j cq ∧ Hid (OStrs D wi (.slice b j cq) ((pl.colL ps k).take j)) ∧ Hid (OPs w1.heap.size wi (.slice a k cp) us (T.take k)) ∧ Hid (Below w1.heap.size w1 wi) ∧ D ≤ wi.heap.size) (fun _ jv _ => n - (intOf jv).toNat)
          case atStart => exact ⟨0, _, 0, Nat.zero_le _, rfl, rfl, HQ3, HO3, HB3, hS3⟩
          case round =>
            obtain ⟨j, b, cq, hjn, rfl, rfl, HQ, HOi, HBi, hDi⟩ := hrel
            obtain ⟨wi, rfl⟩ : ∃ wi : World, wi = wr := ⟨_, rfl⟩
            by_cases hjlt : j < n
            · have hjl : Hid (j < ps.length) := Lib.hid (by rw [← HN.out]; exact hjlt)
              obtain ⟨b3, o3, u3, e3, _, hx3, hu3⟩ := HR1.out.at HN.out HBi.out hjlt
              simp only [Option.some.injEq, Addr.mk.injEq, and_true] at e3
              obtain ⟨rfl, rfl⟩ := e3
              obtain ⟨au3, cu3, hv3⟩ := hu3.1.slice
              have hr1 : (pl.nthP ps j).length = m := (pl.vRows_row HV.out hjl.out).1.trans HM.out
              have HRL := Lib.hid hr1
              have HU3 := Lib.hid hu3.1
              rw [hr1] at hv3
              subst hv3
              obtain ⟨b4, o4, e4, hy⟩ := HU3.out.at HRL.out.symm (Below.refl _ _) hlt
              subst e4
              obtain ⟨x, HX⟩ : ∃ x, Hid (nth (pl.nthP ps j) k = x) := ⟨_, Lib.hid rfl⟩
              rw [HX.out] at hy
              obtain ⟨L, HLE⟩ : ∃ L, Hid ((pl.colL ps k).take j = L) := ⟨_, Lib.hid rfl⟩
              rw [HLE.out] at HQ
              have HTX : Hid (L ++ [x] = (pl.colL ps k).take (j + 1)) := Lib.hid (by rw [← HLE.out, ← pl.take_nth (by rw [pl.colL_len]; exact hjl.out), pl.colL_nth hjl.out, HX.out])
              have HLJ : Hid (L.length = j) := Lib.hid (by rw [← HLE.out, List.length_take, pl.colL_len, ← HN.out]; omega)
              clear hu3 hr1
              go_wp2_with (at_builtin; refine wpList_append_own _ rfl _ _ 27 rfl D 9 i0 (.string ByteArray.empty) 1 16 Try.underlying27 hi hz0 hz1 hz2 rfl (by decide) _ _ _ rfl (World.ownsRow.alloc HQ.out _) ⟨wi.heap.size, 0, none⟩ 1 1 [.string x] rfl rfl ?ka1 ?ka2 ?ka3 ?ka4 ?ka5 ?_)
              case ka1 => exact cell_one_new _ _ _
              case ka2 => intro u hu; simp at hu; subst hu; rfl
              case ka3 => rw [HLJ.out]; unfold maxLen; omega
              case ka4 => rw [HLJ.out]; omega
              case ka5 => simp; omega
              intro v5 w5 hown5 hgrow5 _
              have HQ5 := Lib.hid (OStrs.push1 hown5)
              rw [HTX.out] at HQ5
              have hbE : Below D wi w5 := ((Below.refl _ _).alloc hDi _).grown hgrow5 (by simp; omega) (fun k hk => (World.ownsRow.lt HQ.out k hk).1)
              have HO5 : Hid (OPs w1.heap.size w5 (.slice a k cp) us (T.take k)) := Lib.hid (OPs.grown (HOi.out.below (Nat.le_refl _) ((Below.refl _ _).alloc (Nat.le_refl _) _)) (World.ownsRow.alloc HQ.out _) hgrow5 (.inr LT.out))
              have HB5 := Lib.hid (HBi.out.trans (hbE.mono hwr))
              have hD5 : D ≤ w5.heap.size := Nat.le_trans hDi hbE.size
              obtain ⟨b5, c5, hv5⟩ := HQ5.out.reads.slice
              have hl5 : ((pl.colL ps k).take (j + 1)).length = j + 1 := by rw [List.length_take, pl.colL_len, ← HN.out]; omega
              rw [hl5] at hv5
              subst hv5
              clear hown5 hgrow5 hbE hl5
              go_wp2
              go_roundw
              case rel => exact ⟨j + 1, b5, c5, by omega, by go_num, rfl, HQ5, HO5, HB5, hD5⟩
              case measure => simp [intOf]; omega
            · obtain rfl : j = n := by omega
              have HQT : Hid (OStrs D wi (.slice b j cq) (pl.nthP T k)) := Lib.hid (by
                have := HQ.out
                rw [List.take_of_length_le (by rw [pl.colL_len, ← HN.out]; exact Nat.le_refl _)] at this
                rw [HTK.out]; exact this)
              have HTX : Hid (T.take k ++ [pl.nthP T k] = T.take (k + 1)) := Lib.hid (pl.take_nthP hkT.out)
              go_wp2_with (at_builtin; refine wpList_append_own _ rfl _ _ 30 rfl w1.heap.size 27 j0 (.slice none 0 0) 1 24 Try.underlying30 hj hy0 hy1 hy2 rfl (by decide) _ _ _ rfl (World.ownsRow.alloc HOi.out.1 _) ⟨wi.heap.size, 0, none⟩ 1 1 [.slice b j cq] rfl rfl ?kb1 ?kb2 ?kb3 ?kb4 ?kb5 ?_)
              case kb1 => exact cell_one_new _ _ _
              case kb2 => intro u hu; simp at hu; subst hu; rfl
              case kb3 => rw [HUL.out]; unfold maxLen; omega
              case kb4 => rw [HUL.out]; omega
              case kb5 => simp; omega
              intro v5 w5 hown5 hgrow5 _
              have HP5 := Lib.hid (HOi.out.pushed HQT.out hwr LT.out hown5 hgrow5)
              rw [HTX.out] at HP5
              have hbE : Below w1.heap.size wi w5 := ((Below.refl _ _).alloc (by omega) _).grown hgrow5 (by simp; omega) (fun k hk => (World.ownsRow.lt HOi.out.1 k hk).1)
              have HB5 := Lib.hid (HBi.out.trans hbE)
              obtain ⟨b5, c5, hv5⟩ := HP5.out.reads.slice
              have hl5 : (T.take (k + 1)).length = k + 1 := by rw [List.length_take, HTL.out]; omega
              rw [hl5] at hv5
              subst hv5
              clear hown5 hgrow5 hbE hl5
              go_wp2
              go_roundw
              case rel => exact ⟨k + 1, b5, c5, _, by omega, by go_num, rfl, HP5, HB5⟩
              case measure => simp [intOf]; omega
        · obtain rfl : k = m := by omega
          have HE : Hid (OPs w1.heap.size wr (.slice a k cp) us T) := Lib.hid (by
            have := HO.out
            rw [List.take_of_length_le (by rw [HTL.out]; exact Nat.le_refl _)] at this
            exact this)
          have HBE := Lib.hid (HB1.out.trans (HB.out.mono hS1))
          go_wp2_with fail
          go_ret
          exact ⟨_, rfl, ⟨us, by rw [HC.out]; exact HE.out.mono hS1⟩, HBE.out⟩
end Go.Proofs.Ytgfpbnafehpopaa
