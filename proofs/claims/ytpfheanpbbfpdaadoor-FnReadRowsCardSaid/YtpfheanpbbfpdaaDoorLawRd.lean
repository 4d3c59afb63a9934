/- The walk of FnReadRows. -/
import Derived.Test.YtpfheanpbbfpdaaDoorDrawRd
import Derived.Test.YtpfheanpbbfpdaaDoorRend
import Derived.Test.YtpfheanpbbfpdaaDoorRendS
import Derived.Test.YtpfheanpbbfpdaaDoorReadI
import Derived.Test.YtpfheanpbbfpdaaDoorReadS
import Derived.Test.YtpfheanpbbfpdaaDoorRag
import Derived.Test.YtpfheanpbbfpdaaDoorMarkP
import Derived.Test.YtpfheanpbbfpdaaDoorMaxI
namespace Go.Proofs.YtpfheanpbbfpdaaDoor
open Go.RowKit
set_option maxRecDepth 100000
set_option linter.unusedVariables false

namespace pl
theorem rendR_pos {ps : Gs} {hs : List ByteArray} (h : ¬ (rendR ps hs).length = 0) : rendB ps hs = true := by
  cases hb : rendB ps hs with
  | true => rfl
  | false => rw [rendR_no hb] at h; exact absurd rfl h
def plainTo (ps : Gs) (q i k : Nat) : Prop := (∀ i' k', i' < i → k' < q → plainC (nth (nthP ps i') k') = true) ∧ ∀ k', k' < k → plainC (nth (nthP ps i) k') = true
theorem plainTo_row {ps : Gs} {q i : Nat} (h : plainTo ps q i q) : plainTo ps q (i + 1) 0 :=
  ⟨fun i' k' hi hk => by
    rcases Nat.lt_or_ge i' i with h1 | h1
    · exact h.1 i' k' h1 hk
    · obtain rfl : i' = i := by omega
      exact h.2 k' hk, fun k' hk => absurd hk (by omega)⟩
theorem plainTo_cell {ps : Gs} {q i k : Nat} (h : plainTo ps q i k) (hc : plainC (nth (nthP ps i) k) = true) : plainTo ps q i (k + 1) :=
  ⟨h.1, fun k' hk => by
    rcases Nat.lt_or_ge k' k with h1 | h1
    · exact h.2 k' h1
    · obtain rfl : k' = k := by omega
      exact hc⟩
def leftB : ByteArray := ⟨#[108, 101, 102, 116]⟩
def lefts (n : Nat) : List ByteArray := List.replicate n leftB
theorem lefts_succ (n : Nat) : lefts n ++ [leftB] = lefts (n + 1) := by unfold lefts; rw [← List.replicate_succ']
theorem lefts_len (n : Nat) : (lefts n).length = n := List.length_replicate
theorem lefts_nth {n i : Nat} (h : i < n) : nth (lefts n) i = leftB := by
  rw [nth_eq (by rw [lefts_len]; exact h)]; unfold lefts; simp
theorem lefts_how {n i : Nat} (h : i < (lefts n).length) : howB (nth (lefts n) i) = true := by
  rw [lefts_len] at h
  rw [lefts_nth h]; decide
theorem lefts_pos {i k q : Nat} (h : i = 0) : lefts (if i = 0 then k else q) = lefts k := by rw [if_pos h]
theorem lefts_neg {i k q : Nat} (h : ¬ i = 0) : lefts (if i = 0 then k else q) = lefts q := by rw [if_neg h]
theorem lefts_end (i q : Nat) : lefts (if i = 0 then q else q) = lefts (if i + 1 = 0 then 0 else q) := by rw [ite_self, if_neg (by omega)]
theorem lefts_all {m q : Nat} (h : m = 0 → q = 0) : lefts (if m = 0 then 0 else q) = lefts q := by
  by_cases e : m = 0
  · rw [if_pos e, h e]
  · rw [if_neg e]
end pl

def RdIn (D : pl.Gs) (q i E : Nat) (w4 : World) (hv pv kv : Value) (wr : World) : Prop :=
  ∃ (k : Nat) (P : Bool), k ≤ q ∧ kv = .int .i64 k ∧ pv = .bool P ∧ Hid (P = true → pl.plainTo D q i k) ∧ Hid (OStrs E wr hv (pl.lefts (if i = 0 then k else q))) ∧ Hid (Below w4.heap.size w4 wr)
def RdOut (D : pl.Gs) (m q E : Nat) (w4 : World) (hv pv iv : Value) (wr : World) : Prop :=
  ∃ (i : Nat) (P : Bool), i ≤ m ∧ iv = .int .i64 i ∧ pv = .bool P ∧ Hid (P = true → pl.plainTo D q i 0) ∧ Hid (OStrs E wr hv (pl.lefts (if i = 0 then 0 else q))) ∧ Hid (Below w4.heap.size w4 wr)

set_option maxHeartbeats 8000000 in
theorem fnReadRows_walk (a : Option Addr) (len cap : Nat) (zs : List Int) (w : World) (hr : IsRow .u8 w a len cap zs) (hmx : MaxI w) :
    Calls Tryd.prog 3 #[.slice a len cap] w fun e w' => e = .returned (.bool true) ∧ Below w.heap.size w w' := by
  obtain ⟨i0, hi, hz0, hz1, hz2⟩ := info_parts infoS
  have hlen := row_len hr
  have HMX := Lib.hid hmx
  clear hmx
  by_cases hb : 1048576 < len
  · go_enter Tryd.func3, Tryd.ntmps3
    go_wp2
    go_ret
    exact ⟨rfl, Below.refl _ _⟩
  · go_enter Tryd.func3, Tryd.ntmps3
    go_wp2_with fail
    refine (dReadRows_any a len cap zs _ hr).mono ?_
    rintro e w1 ⟨v, ls, rfl, ho, hl, hf, hb1⟩
    have HO1 := Lib.hid ho.reads
    have HB1 := Lib.hid hb1
    have HM1 := Lib.hid (HMX.out.below (Nat.le_refl _) hb1)
    have HL : Hid (ls.length ≤ 1048576) := Lib.hid (by omega)
    have HS : Hid (∀ i, i < ls.length → (nth ls i).size ≤ 1048576) := Lib.hid (fun i hi => by have := hf i hi; omega)
    have HL6 := Lib.hid hl
    obtain ⟨av, cv, hv⟩ := ho.reads.slice
    obtain ⟨nl, HNL⟩ : ∃ nl, Hid (ls.length = nl) := ⟨_, Lib.hid rfl⟩
    rw [HNL.out] at hv hl
    subst hv
    clear ho hb1 hf
    have HDZ := Lib.hid (pl.readR_bd ls)
    obtain ⟨D, HD⟩ : ∃ D, Hid (pl.readR ls = D) := ⟨_, Lib.hid rfl⟩
    obtain ⟨G, HG⟩ : ∃ G, Hid (pl.readB ls = G) := ⟨_, Lib.hid rfl⟩
    rw [HD.out] at HDZ
    go_wp2_with fail
    refine (iReadRows_any ls _ _ HO1.out HL.out HS.out HM1.out).mono ?_
    rintro e w2 ⟨v2, rfl, ho2, hb2⟩
    rw [HD.out] at ho2
    rw [HG.out]
    have HI2 := Lib.hid ho2.reads
    have HO2 := Lib.hid (HO1.out.below (Nat.le_refl _) hb2)
    have HB2 := Lib.hid (HB1.out.trans (hb2.mono HB1.out.size))
    clear hb2 ho2
    go_wp2_with fail
    refine (sReadRows_any ls _ _ HO2.out HL.out HS.out).mono ?_
    rintro e w3 ⟨v3, rfl, ho3, hb3⟩
    rw [HD.out] at ho3
    rw [HG.out]
    have HJ3 := Lib.hid ho3.reads
    have HI3 := Lib.hid (HI2.out.below (Nat.le_refl _) hb3)
    have HB3 := Lib.hid (HB2.out.trans (hb3.mono HB2.out.size))
    clear hb3 ho3
    go_wp2_with fail
    refine (equalRows_same D v2 v3 _ HI3.out HJ3.out (by have := HDZ.out.1; omega) (fun k hk => by have := HDZ.out.2.2 k hk; omega)).mono ?_
    rintro e w4 ⟨rfl, hb4⟩
    have HI4 := Lib.hid (HI3.out.below (Nat.le_refl _) hb4)
    have HJ4 := Lib.hid (HJ3.out.below (Nat.le_refl _) hb4)
    have HB4 := Lib.hid (HB3.out.trans (hb4.mono HB3.out.size))
    clear hb4
    cases hg : G with
    | false =>
      subst hg
      go_wp2_with fail
      refine (equalRows_same D v2 v3 _ HI4.out HJ4.out (by have := HDZ.out.1; omega) (fun k hk => by have := HDZ.out.2.2 k hk; omega)).mono ?_
      rintro e w5 ⟨rfl, hb5⟩
      have HB5 := Lib.hid (HB4.out.trans (hb5.mono HB4.out.size))
      clear hb5
      go_wp2_with fail
      go_ret
      exact ⟨rfl, HB5.out⟩
    | true =>
      subst hg
      have HV : Hid (pl.vRows D = true) := Lib.hid (by
        rw [← HD.out, pl.readR_yes HG.out]
        have := HG.out
        unfold pl.readB at this
        rw [Bool.and_eq_true] at this
        exact this.2)
      have HPD : Hid (pl.readP ls = D) := Lib.hid ((pl.readR_yes HG.out).symm.trans HD.out)
      obtain ⟨m, HM⟩ : ∃ m, Hid (m = D.length) := ⟨_, Lib.hid rfl⟩
      have HN : Hid (m = nl) := Lib.hid (by rw [HM.out, ← HPD.out, pl.readP_len, HNL.out])
      have hm6 : m ≤ 6 := by rw [HM.out]; exact (pl.vRows_parts HV.out).1
      have hq5 := pl.vRows_cols HV.out
      obtain ⟨q, HQ⟩ : ∃ q, Hid (pl.colsN D = q) := ⟨_, Lib.hid rfl⟩
      rw [HQ.out] at hq5
      have HQ0 : Hid (m = 0 → q = 0) := Lib.hid (fun h => by rw [← HQ.out]; exact pl.colsN_nil (by rw [← HM.out]; exact h))
      obtain ⟨ar, cr, hvr⟩ := HI4.out.slice
      rw [← HM.out] at hvr
      subst hvr
      obtain rfl : m = nl := HN.out
      go_wp2_with fail
      have HH0 : Hid (OStrs w4.heap.size (w4.alloc (.cells #[] 9)) (.slice (some ⟨w4.heap.size, 0, none⟩) 0 0) (pl.lefts 0)) := Lib.hid (World.ownsRow_made _ _ _ (Nat.le_refl _) (by unfold maxLen; omega) rfl)
      have HBA : Hid (Below w4.heap.size w4 (w4.alloc (.cells #[] 9))) := Lib.hid ((Below.refl _ _).alloc (Nat.le_refl _) _)
      obtain ⟨wa, HWA⟩ : ∃ u, Hid (w4.alloc (.cells #[] 9) = u) := ⟨_, Lib.hid rfl⟩
      rw [HWA.out] at HH0 HBA ⊢
      obtain ⟨E, HE⟩ : ∃ E, Hid (w4.heap.size = E) := ⟨_, Lib.hid rfl⟩
      rw [HE.out] at HH0 ⊢
      go_loopw [8, 9, 10] (fun hv pv iv wr => RdOut D m q E w4 hv pv iv wr) (fun _ _ iv _ => m - (intOf iv).toNat)
      case atStart => exact ⟨0, true, Nat.zero_le _, rfl, rfl, Lib.hid (fun _ => ⟨fun i' k' h => absurd h (by omega), fun k' h => absurd h (by omega)⟩), HH0, HBA⟩
      case round =>
        obtain ⟨i, P, him, rfl, rfl, hP, HH, HBW⟩ := hrel
        obtain ⟨wi, rfl⟩ : ∃ wi : World, wi = wr := ⟨_, rfl⟩
        by_cases hlt : i < m
        · have hkl : Hid (i < D.length) := Lib.hid (by rw [← HM.out]; exact hlt)
          have hrow := pl.vRows_row HV.out hkl.out
          have HRL : Hid (q = (pl.nthP D i).length) := Lib.hid (by rw [← HQ.out]; exact hrow.1.symm)
          have HVC := Lib.hid hrow.2
          have hP2 : Hid (P = true → pl.plainTo D q i 0) := hP
          have HH2 := HH
          clear hrow hP HH
          go_wp2_with fail
          go_loopw [8, 9, 11] (fun hv pv kv wr => RdIn D q i E w4 hv pv kv wr) (fun _ _ kv _ => q - (intOf kv).toNat)
          case atStart => exact ⟨0, P, Nat.zero_le _, rfl, rfl, hP2, HH2, HBW⟩
          case round =>
            obtain ⟨k, P, hkq, rfl, rfl, hPk, HHk, HBk⟩ := hrel
            obtain ⟨wk, rfl⟩ : ∃ wk : World, wk = wr := ⟨_, rfl⟩
            obtain ⟨b1, o1, u1, e1, _, hc1, hu1⟩ := HI4.out.at HM.out HBk.out hlt
            subst e1
            obtain ⟨au, cu, hvu⟩ := hu1.1.slice
            rw [← HRL.out] at hvu
            subst hvu
            have HU1r := Lib.hid hu1.1
            clear hu1
            by_cases hkl2 : k < q
            · obtain ⟨b2, o2, e2, hx⟩ := HU1r.out.at HRL.out (Below.refl _ _) hkl2
              subst e2
              have hxs := pl.vCells_size HVC.out k (by rw [← HRL.out]; exact hkl2)
              have HRG : Hid (pl.raggedL (nth (pl.nthP D i) k).data.toList = false) := Lib.hid (by
                have := pl.read_cells (ls := ls) (i := i) (k := k) (by rw [HNL.out]; exact hlt) (by rw [HPD.out, ← HRL.out]; exact hkl2)
                rw [HPD.out] at this; exact this)
              obtain ⟨x, HX⟩ : ∃ x, Hid (nth (pl.nthP D i) k = x) := ⟨_, Lib.hid rfl⟩
              rw [HX.out] at hx hxs HRG
              go_wp2_with fail
              refine (ragged_any x _ (by omega)).mono ?_
              rintro e w' ⟨rfl, rfl⟩
              rw [HRG.out]
              have hEk : E ≤ wk.heap.size := by rw [← HE.out]; exact HBk.out.size
              cases P with
              | false =>
                by_cases hi0 : i = 0
                · have hi0i : ((i : Int) == 0) = true := by rw [hi0]; rfl
                  have HI0 := Lib.hid hi0
                  rw [pl.lefts_pos hi0] at HHk
                  clear hi0
                  go_wp2_with (at_builtin; refine wpList_append_own _ rfl _ _ 23 rfl E 9 i0 (.string ByteArray.empty) 1 16 Tryd.underlying23 hi hz0 hz1 hz2 rfl (by decide) _ _ _ rfl (World.ownsRow.alloc HHk.out _) ⟨wk.heap.size, 0, none⟩ 1 1 [.string pl.leftB] rfl rfl (cell_one_new _ _ _) (by intro u hu; simp at hu; subst hu; rfl) (by rw [pl.lefts_len]; unfold maxLen; omega) (by rw [pl.lefts_len]; omega) (by simp; omega) ?_)
                  intro v6 w6 hown6 hgrow6 _
                  have HQ6 := Lib.hid (OStrs.push1 hown6)
                  rw [pl.lefts_succ] at HQ6
                  have hbE : Below E wk w6 := ((Below.refl _ _).alloc hEk _).grown hgrow6 (by simp; omega) (fun b hb => (World.ownsRow.lt HHk.out b hb).1)
                  rw [← HE.out] at hbE
                  have HB6 := Lib.hid (HBk.out.trans hbE)
                  clear hown6 hgrow6 hbE
                  go_wp2
                  go_roundw
                  case rel => exact ⟨k + 1, false, by omega, by go_num, rfl, Lib.hid (fun h => by cases h), Lib.hid (by rw [pl.lefts_pos HI0.out]; exact HQ6.out), HB6⟩
                  case measure => simp [intOf]; omega
                · have hi0i : ((i : Int) == 0) = false := beq_eq_false_iff_ne.2 (by omega)
                  have HI0 := Lib.hid hi0
                  clear hi0
                  go_wp2
                  go_roundw
                  case rel => exact ⟨k + 1, false, by omega, by go_num, rfl, Lib.hid (fun h => by cases h), Lib.hid (by rw [pl.lefts_neg HI0.out]; have := HHk.out; rw [pl.lefts_neg HI0.out] at this; exact this), HBk⟩
                  case measure => simp [intOf]; omega
              | true =>
                have hPT := Lib.hid (hPk.out rfl)
                go_wp2_with fail
                refine (hasByte_at x 124 124 rfl _ (by omega)).mono ?_
                rintro e w' ⟨rfl, rfl⟩
                cases hcc : pl.hasC x 124 with
                | true =>
                  clear hcc
                  by_cases hi0 : i = 0
                  · have hi0i : ((i : Int) == 0) = true := by rw [hi0]; rfl
                    have HI0 := Lib.hid hi0
                    rw [pl.lefts_pos hi0] at HHk
                    clear hi0
                    go_wp2_with (at_builtin; refine wpList_append_own _ rfl _ _ 23 rfl E 9 i0 (.string ByteArray.empty) 1 16 Tryd.underlying23 hi hz0 hz1 hz2 rfl (by decide) _ _ _ rfl (World.ownsRow.alloc HHk.out _) ⟨wk.heap.size, 0, none⟩ 1 1 [.string pl.leftB] rfl rfl (cell_one_new _ _ _) (by intro u hu; simp at hu; subst hu; rfl) (by rw [pl.lefts_len]; unfold maxLen; omega) (by rw [pl.lefts_len]; omega) (by simp; omega) ?_)
                    intro v6 w6 hown6 hgrow6 _
                    have HQ6 := Lib.hid (OStrs.push1 hown6)
                    rw [pl.lefts_succ] at HQ6
                    have hbE : Below E wk w6 := ((Below.refl _ _).alloc hEk _).grown hgrow6 (by simp; omega) (fun b hb => (World.ownsRow.lt HHk.out b hb).1)
                    rw [← HE.out] at hbE
                    have HB6 := Lib.hid (HBk.out.trans hbE)
                    clear hown6 hgrow6 hbE
                    go_wp2
                    go_roundw
                    case rel => exact ⟨k + 1, false, by omega, by go_num, rfl, Lib.hid (fun h => by cases h), Lib.hid (by rw [pl.lefts_pos HI0.out]; exact HQ6.out), HB6⟩
                    case measure => simp [intOf]; omega
                  · have hi0i : ((i : Int) == 0) = false := beq_eq_false_iff_ne.2 (by omega)
                    have HI0 := Lib.hid hi0
                    clear hi0
                    go_wp2
                    go_roundw
                    case rel => exact ⟨k + 1, false, by omega, by go_num, rfl, Lib.hid (fun h => by cases h), Lib.hid (by rw [pl.lefts_neg HI0.out]; have := HHk.out; rw [pl.lefts_neg HI0.out] at this; exact this), HBk⟩
                    case measure => simp [intOf]; omega
                | false =>
                  have hN := Lib.hid (pl.plainTo_cell hPT.out (by rw [HX.out]; exact pl.plainC_of hcc HRG.out))
                  clear hcc
                  by_cases hi0 : i = 0
                  · have hi0i : ((i : Int) == 0) = true := by rw [hi0]; rfl
                    have HI0 := Lib.hid hi0
                    rw [pl.lefts_pos hi0] at HHk
                    clear hi0
                    go_wp2_with (at_builtin; refine wpList_append_own _ rfl _ _ 23 rfl E 9 i0 (.string ByteArray.empty) 1 16 Tryd.underlying23 hi hz0 hz1 hz2 rfl (by decide) _ _ _ rfl (World.ownsRow.alloc HHk.out _) ⟨wk.heap.size, 0, none⟩ 1 1 [.string pl.leftB] rfl rfl (cell_one_new _ _ _) (by intro u hu; simp at hu; subst hu; rfl) (by rw [pl.lefts_len]; unfold maxLen; omega) (by rw [pl.lefts_len]; omega) (by simp; omega) ?_)
                    intro v6 w6 hown6 hgrow6 _
                    have HQ6 := Lib.hid (OStrs.push1 hown6)
                    rw [pl.lefts_succ] at HQ6
                    have hbE : Below E wk w6 := ((Below.refl _ _).alloc hEk _).grown hgrow6 (by simp; omega) (fun b hb => (World.ownsRow.lt HHk.out b hb).1)
                    rw [← HE.out] at hbE
                    have HB6 := Lib.hid (HBk.out.trans hbE)
                    clear hown6 hgrow6 hbE
                    go_wp2
                    go_roundw
                    case rel => exact ⟨k + 1, true, by omega, by go_num, rfl, Lib.hid (fun _ => hN.out), Lib.hid (by rw [pl.lefts_pos HI0.out]; exact HQ6.out), HB6⟩
                    case measure => simp [intOf]; omega
                  · have hi0i : ((i : Int) == 0) = false := beq_eq_false_iff_ne.2 (by omega)
                    have HI0 := Lib.hid hi0
                    clear hi0
                    go_wp2
                    go_roundw
                    case rel => exact ⟨k + 1, true, by omega, by go_num, rfl, Lib.hid (fun _ => hN.out), Lib.hid (by rw [pl.lefts_neg HI0.out]; have := HHk.out; rw [pl.lefts_neg HI0.out] at this; exact this), HBk⟩
                    case measure => simp [intOf]; omega
            · obtain rfl : k = q := by omega
              have hNR : Hid (P = true → pl.plainTo D k (i + 1) 0) := Lib.hid (fun h => pl.plainTo_row (hPk.out h))
              rw [pl.lefts_end] at HHk
              clear hP2 hPk
              go_wp2
              go_roundw
              case rel => exact ⟨i + 1, P, by omega, by go_num, rfl, hNR, HHk, HBk⟩
              case measure => simp [intOf]; omega
        · obtain rfl : i = m := by omega
          rw [pl.lefts_all HQ0.out] at HH
          have HI5 := Lib.hid (HI4.out.below (Nat.le_refl _) HBW.out)
          have HB5 := Lib.hid (HB4.out.trans (HBW.out.mono HB4.out.size))
          have HSM : Hid (Small D) := Lib.hid ⟨by have := HDZ.out.1; omega, fun k hk => by have := HDZ.out.2.2 k hk; omega, fun k hk t ht => by have := pl.vCells_size (pl.vRows_row HV.out hk).2 t ht; omega⟩
          have HRB : Hid (pl.rendB D (pl.lefts q) = true) := Lib.hid (pl.rendB_yes HV.out (by rw [pl.lefts_len, HQ.out]) (fun j hj => pl.lefts_how hj))
          obtain ⟨L, HLL⟩ : ∃ L, Hid (pl.rendR D (pl.lefts q) = L) := ⟨_, Lib.hid rfl⟩
          have HLF : Hid (∀ i, i < L.length → (nth L i).size ≤ 95) := Lib.hid (by rw [← HLL.out]; exact pl.rendR_few _ _)
          have HLN : Hid (L.length ≤ 6) := Lib.hid (by rw [← HLL.out]; exact pl.rendR_len _ _)
          go_wp2_with fail
          refine (iRender_any D (pl.lefts q) _ _ _ HI5.out HH.out.reads HSM.out (by rw [pl.lefts_len]; omega) (fun j hj => by rw [pl.lefts_len] at hj; rw [pl.lefts_nth hj]; decide)).mono ?_
          rintro e w6 ⟨v6, rfl, ho6, hb6⟩
          rw [HLL.out] at ho6
          have HO6 := Lib.hid ho6.reads
          have HI6 := Lib.hid (HI5.out.below (Nat.le_refl _) hb6)
          have HB6 := Lib.hid (HB5.out.trans (hb6.mono HB5.out.size))
          have HM6 := Lib.hid (HMX.out.below (Nat.le_refl _) HB6.out)
          clear hb6 ho6
          go_wp2_with fail
          refine (iReadRows_any L _ _ HO6.out (by have := HLN.out; omega) (fun j hj => by have := HLF.out j hj; omega) HM6.out).mono ?_
          rintro e w7 ⟨v7, rfl, ho7, hb7⟩
          have HI7 := Lib.hid (HI6.out.below (Nat.le_refl _) hb7)
          have HB7 := Lib.hid (HB6.out.trans (hb7.mono HB6.out.size))
          clear hb7
          cases P with
          | false =>
            obtain ⟨R, HR⟩ : ∃ R, Hid (pl.readB L = R) := ⟨_, Lib.hid rfl⟩
            rw [HR.out]
            clear ho7
            go_wp2_with fail
            go_ret
            exact ⟨rfl, HB7.out⟩
          | true =>
            have hrt := pl.rend_read HRB.out (fun i' k' hi hk => (hP.out rfl).1 i' k' (by rw [HM.out]; exact hi) (by rw [← HQ.out]; exact hk))
            rw [← pl.rendR_yes HRB.out, HLL.out] at hrt
            rw [pl.readR_yes hrt.1, hrt.2] at ho7
            rw [hrt.1]
            have HK7 := Lib.hid ho7.reads
            clear hrt ho7
            go_wp2_with fail
            refine (equalRows_same D v7 _ _ HK7.out HI7.out (by have := HDZ.out.1; omega) (fun k hk => by have := HDZ.out.2.2 k hk; omega)).mono ?_
            rintro e w8 ⟨rfl, hb8⟩
            have HB8 := Lib.hid (HB7.out.trans (hb8.mono HB7.out.size))
            clear hb8
            go_wp2_with fail
            go_ret
            exact ⟨rfl, HB8.out⟩
end Go.Proofs.YtpfheanpbbfpdaaDoor
