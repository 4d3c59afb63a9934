/- Contract: DrawReadRows. -/
import Derived.Test.YtpfheanpbbfpdaaDoorDrawTb
import Derived.Test.YtpfheanpbbfpdaaDoorPkB
import Derived.Test.YtpfheanpbbfpdaaDoorMut
import Derived.Test.YtpfheanpbbfpdaaDoorRendS
namespace Go.Proofs.YtpfheanpbbfpdaaDoor
open Go.RowKit
set_option maxRecDepth 100000
set_option linter.unusedVariables false

namespace pl
theorem rendR_few (ps : Gs) (hs : List ByteArray) : ∀ i, i < (rendR ps hs).length → (nth (rendR ps hs) i).size ≤ 95 := by
  intro i hi
  cases h : rendB ps hs with
  | false => rw [rendR_no h] at hi; simp at hi
  | true =>
    rw [rendR_yes h] at hi ⊢
    rw [rendL_len] at hi
    unfold rendL
    rw [drawL_nth _ hi]
    exact lineP_le h hi
end pl
def DrewLines (w : World) (e : Ending) (w' : World) : Prop :=
  ∃ v l, e = .returned v ∧ OStrs w.heap.size w' v l ∧ l.length ≤ 6 ∧ few 200 l ∧ Below w.heap.size w w'

set_option maxHeartbeats 8000000 in
theorem dReadRows_any (a : Option Addr) (len cap : Nat) (zs : List Int) (w : World) (hr : IsRow .u8 w a len cap zs) :
    Calls Tryd.prog 14 #[.slice a len cap] w (DrewLines w) := by
  obtain ⟨i0, hi, hz0, hz1, hz2⟩ := info_parts infoS
  go_enter Tryd.func14, Tryd.ntmps14
  go_wp2_with fail
  refine (newReader_any a len cap zs _ hr).mono ?_
  rintro e w1 ⟨n, c, rfl, hR, hb1⟩
  have HB1 := Lib.hid hb1
  have hgw : w.heap.size < w1.heap.size := hR.lt
  clear hb1
  go_wp2_with fail
  refine (someRows_any _ _ n c 0 a _ hR (by omega)).mono ?_
  rintro e w2 ⟨v, ps, rfl, ⟨us, ho⟩, hl, hf, p2, hp2, hR2, hg2⟩
  have HO2 := Lib.hid ho
  have HF := Lib.hid hf
  have HG2 := Lib.hid hg2
  have hm6 : pl.colsN ps ≤ 6 := by
    by_cases h0 : ps.length = 0
    · rw [pl.colsN_nil h0]; omega
    · exact (hf 0 (by omega)).1
  have HZ : Hid (ps.length = 0 → pl.colsN ps = 0) := Lib.hid pl.colsN_nil
  obtain ⟨a0, c0, hv⟩ := ho.reads.slice
  obtain ⟨N, HN⟩ : ∃ N, Hid (N = ps.length) := ⟨_, Lib.hid rfl⟩
  obtain ⟨m, HM⟩ : ∃ m, Hid (pl.colsN ps = m) := ⟨_, Lib.hid rfl⟩
  rw [← HN.out] at hv hl HZ
  rw [HM.out] at hm6 HZ
  subst hv
  have hw12 : w1.heap.size ≤ w2.heap.size := hg2.size
  clear ho hf hg2 hR
  go_wp2_with fail
  have hR3 : Rdr w.heap.size w.heap.size n c p2 a (w2.alloc (.cells #[] 9)) := hR2.below (C := w2.heap.size) (by omega) hR2.lt ((Below.refl _ _).alloc (Nat.le_refl _) _)
  have HO3 : Hid (OPs w1.heap.size (w2.alloc (.cells #[] 9)) (.slice a0 N c0) us ps) := Lib.hid (HO2.out.below (Nat.le_refl _) ((Below.refl _ _).alloc (Nat.le_refl _) _))
  have LT := Lib.hid HO2.out.lt
  have HQ3 : Hid (OStrs w2.heap.size (w2.alloc (.cells #[] 9)) (.slice (some ⟨w2.heap.size, 0, none⟩) 0 0) []) := Lib.hid (World.ownsRow_made _ _ _ (Nat.le_refl _) (by unfold maxLen; omega) rfl)
  have HG3 := Lib.hid (grown_tr HG2.out (grown_al w2 (.cells #[] 9)))
  have hS3 : w2.heap.size ≤ (w2.alloc (.cells #[] 9)).heap.size := by simp
  obtain ⟨w3, HW3⟩ : ∃ u, Hid (w2.alloc (.cells #[] 9) = u) := ⟨_, Lib.hid rfl⟩
  rw [HW3.out] at hR3 HO3 HQ3 HG3 hS3 ⊢
  obtain ⟨D, HD⟩ : ∃ D, Hid (w2.heap.size = D) := ⟨_, Lib.hid rfl⟩
  rw [HD.out] at HQ3 LT hw12 hS3 ⊢
  have hwD : w1.heap.size ≤ D := hw12
  have hgD : w.heap.size < D := by omega
  clear HO2 HG2 hR2
  go_loopw [5, 6] (fun cv iv wi => ∃ (k : Nat) (l : List ByteArray) (q : Nat), k ≤ m ∧ iv = .int .i64 k ∧ Hid (l.length = k) ∧ Hid (OStrs D wi cv l) ∧ Hid (few 40 l) ∧ q ≤ 200 + k ∧ Rdr w.heap.size w.heap.size n c q a wi ∧ Hid (OPs w1.heap.size wi (.slice a0 N c0) us ps) ∧ Hid (w1.grownBy wi (some w.heap.size)) ∧ D ≤ wi.heap.size) (fun _ iv _ => m - (intOf iv).toNat)
  case atStart => exact ⟨0, [], p2, Nat.zero_le _, rfl, Lib.hid rfl, HQ3, Lib.hid (few_nil _), by omega, hR3, HO3, HG3, hS3⟩
  case round =>
    obtain ⟨k, l, q, hk, rfl, hll, HQ, hfl, hq, hRi, HOi, HGi, hDi⟩ := hrel
    obtain ⟨wi, rfl⟩ : ∃ wi : World, wi = wr := ⟨_, rfl⟩
    by_cases hN0 : N = 0
    · have hm0 : m = 0 := HZ.out hN0
      have hNi : ¬ (0 : Int) < (N : Int) := by omega
      clear hN0
      go_wp2_with fail
      refine (sRender_any ps l _ _ _ HOi.out.reads HQ.out.reads (HF.out.small (by omega) (by rw [← HN.out]; omega)) (by rw [hll.out]; omega) (fun i hi => by have := hfl.out i hi; omega)).mono ?_
      rintro e w4 ⟨v4, rfl, ho4, hb4⟩
      have hR4 := hRi.below (C := wi.heap.size) (by omega) hRi.lt hb4
      have HG4 := Lib.hid (grown_tr HGi.out (grown_of_below hb4))
      have HL4 := Lib.hid (pl.rendR_len ps l)
      have HS4 := Lib.hid (pl.rendR_few ps l)
      obtain ⟨L, HLL⟩ : ∃ L, Hid (pl.rendR ps l = L) := ⟨_, Lib.hid rfl⟩
      rw [HLL.out] at ho4 HL4 HS4
      have HO4 := Lib.hid ho4
      obtain ⟨a4, c4, hv4⟩ := ho4.reads.slice
      obtain ⟨m4, HM4⟩ : ∃ m4, Hid (L.length = m4) := ⟨_, Lib.hid rfl⟩
      rw [HM4.out] at hv4 HL4
      have hm6' := HL4.out
      subst hv4
      clear ho4 hb4 HQ HOi HGi hRi
      by_cases h0 : m4 = 0
      · have h0i : ¬ (0 : Int) < (m4 : Int) := by omega
        clear h0
        go_wp2_with fail
        go_ret
        exact ⟨_, L, rfl, own_mono HO4.out (by omega), by rw [HM4.out]; exact HL4.out, fun i hi => by have := HS4.out i hi; omega, HB1.out.grown HG4.out HB1.out.size (fun k hk => by cases hk; exact Nat.le_refl _)⟩
      · have h0i : (0 : Int) < (m4 : Int) := by omega
        go_wp2_with fail
        refine (pick_any 6 w.heap.size w.heap.size n c q a _ hR4 (by omega) (by omega)).mono ?_
        rintro e w5 ⟨r, rfl, hr0, hr1, hR5, hg5⟩
        have HO5 := Lib.hid (HO4.out.read hg5 (by omega))
        have HG5 := Lib.hid (grown_tr HG4.out hg5)
        clear hg5 HO4 HG4 hR4
        by_cases e0 : r = 0
        · subst e0
          go_wp2_with fail
          refine (pick_any m4 w.heap.size w.heap.size n c (q + 1) a _ hR5 (by omega) (by omega)).mono ?_
          rintro e w6 ⟨k6, rfl, hk0, hk1, hR6, hg6⟩
          have hk2 := hk1 (by omega)
          obtain ⟨k6, rfl⟩ := Int.eq_ofNat_of_zero_le hk0
          have hk3 : k6 < m4 := by omega
          have HO6 := Lib.hid (HO5.out.read hg6 (by omega))
          have HG6 := Lib.hid (grown_tr HG5.out hg6)
          clear hg6 HO5 HG5 hR5 hk1
          obtain ⟨b6, o6, e6, hx6⟩ := HO6.out.reads.at HM4.out.symm (Below.refl _ _) hk3
          subst e6
          have hxs := HS4.out k6 (by rw [HM4.out]; exact hk3)
          obtain ⟨x, HX⟩ : ∃ x, Hid (nth L k6 = x) := ⟨_, Lib.hid rfl⟩
          rw [HX.out] at hx6 hxs
          go_wp2_with fail
          refine (mutate_any 95 x hxs (by omega) w.heap.size w.heap.size n c (q + 2) a _ hR6 (by omega)).mono ?_
          rintro e w7 ⟨y, rfl, hy, p7, hp7, hR7, hg7⟩
          have ho7 := HO6.out.read hg7 (by omega)
          obtain ⟨g7, hgB, rfl, rfl⟩ : ∃ g, wi.heap.size ≤ g ∧ b6 = g ∧ o6 = 0 := by
            rcases ho7.2 with ⟨hv, _⟩ | ⟨g, cap, cur, hv, hB, _⟩
            · cases hv
            · injection hv with e1 e2 e3; injection e1 with e1; injection e1 with e1 e4; exact ⟨g, hB, e1, e4⟩
          have ho7' : w7.ownsRow wi.heap.size 9 1 (.slice (some ⟨b6, 0, none⟩) m4 c4) m4 (L.map Value.string) := by
            have := ho7
            unfold OStrs at this
            rw [HM4.out] at this
            exact this
          have hc7 := own_cell ho7' HM4.out hk3
          have hf7 := World.ownsRow.frozenAt ho7' k6
          obtain ⟨hs8, hgs8⟩ := own_store (j := k6) ho7' y
          have HO8 : Hid (OStrs wi.heap.size (w7.setCell ⟨b6, k6, none⟩ (.string y)) (.slice (some ⟨b6, 0, none⟩) m4 c4) (L.set k6 y)) := Lib.hid (by
            unfold OStrs
            rw [List.length_set, HM4.out]; exact hs8)
          have HB7 := Lib.hid (HB1.out.grown (grown_tr HG6.out hg7) HB1.out.size (fun k hk => by cases hk; exact Nat.le_refl _))
          have HB8 := Lib.hid (HB7.out.setCell (p := ⟨b6, k6, none⟩) (by show w.heap.size ≤ b6; omega) (.string y))
          have HF8 : Hid (few 200 (L.set k6 y)) := Lib.hid (fun i hi => by
            rw [List.length_set] at hi
            by_cases e : i = k6
            · subst e; rw [nth_set_same hi]; omega
            · rw [nth_set_other hi e]; have := HS4.out i hi; omega)
          clear hs8 hgs8 ho7 ho7' hg7 hx6
          go_wp2_with fail
          go_ret
          exact ⟨_, _, rfl, own_mono HO8.out (by omega), by rw [List.length_set, HM4.out]; exact HL4.out, HF8.out, HB8.out⟩
        · have e0' : (r == 0) = false := beq_eq_false_iff_ne.2 e0
          clear e0
          go_wp2_with fail
          go_ret
          exact ⟨_, L, rfl, own_mono HO5.out (by omega), by rw [HM4.out]; exact HL4.out, fun i hi => by have := HS4.out i hi; omega, HB1.out.grown HG5.out HB1.out.size (fun k hk => by cases hk; exact Nat.le_refl _)⟩
    · have hNp : 0 < N := by omega
      have hNi : (0 : Int) < (N : Int) := by omega
      obtain ⟨b1, o1, u0, e1, hb1, hc1, hu1⟩ := HOi.out.reads.at HN.out (Below.refl _ _) hNp
      obtain ⟨au, cu, hvu⟩ := hu1.1.slice
      rw [Nat.add_zero, hvu, show (pl.nthP ps 0).length = m from HM.out] at hc1
      subst e1
      clear hu1 hvu hb1
      by_cases hlt : k < m
      · have hlti : (k : Int) < (m : Int) := by omega
        go_wp2_with fail
        refine (of_lit 40 3 _ rfl (by omega) (by omega) ?_ w.heap.size w.heap.size n c q a _ hRi (by omega)).mono ?_
        · simp [okStrs, ByteArray.size_mk']
        rintro e w4 ⟨s, rfl, hs, p4, hp4, hR4, hg4⟩
        have HQ4 := Lib.hid (HQ.out.read hg4 hgD)
        have HO4 := Lib.hid (HOi.out.readR hg4 hgw)
        have HG4 := Lib.hid (grown_tr HGi.out hg4)
        have hD4 : D ≤ w4.heap.size := Nat.le_trans hDi hg4.size
        clear hg4 HQ HOi HGi hRi hc1
        go_wp2_with (at_builtin; refine wpList_append_own _ rfl _ _ 23 rfl D 9 i0 (.string ByteArray.empty) 1 16 Tryd.underlying23 hi hz0 hz1 hz2 rfl (by decide) _ _ _ rfl (World.ownsRow.alloc HQ4.out _) ⟨w4.heap.size, 0, none⟩ 1 1 [.string s] rfl rfl ?ka1 ?ka2 ?ka3 ?ka4 ?ka5 ?_)
        case ka1 => exact cell_one_new _ _ _
        case ka2 => intro u hu; simp at hu; subst hu; rfl
        case ka3 => rw [hll.out]; unfold maxLen; omega
        case ka4 => rw [hll.out]; omega
        case ka5 => simp; omega
        intro v5 w5 hown5 hgrow5 _
        have HQ5 := Lib.hid (OStrs.push1 hown5)
        have hbE : Below D w4 w5 := ((Below.refl _ _).alloc hD4 _).grown hgrow5 (by simp; omega) (fun k hk => (World.ownsRow.lt HQ4.out k hk).1)
        have HO5 : Hid (OPs w1.heap.size w5 (.slice (some ⟨b1, o1, none⟩) N c0) us ps) := Lib.hid (OPs.grown (HO4.out.below (Nat.le_refl _) ((Below.refl _ _).alloc (Nat.le_refl _) _)) (World.ownsRow.alloc HQ4.out _) hgrow5 (.inr LT.out))
        have HG5 := Lib.hid (grown_then HG4.out (hbE.mono hwD))
        have hR5 := hR4.below (C := D) (by omega) hgD hbE
        have hD5 : D ≤ w5.heap.size := Nat.le_trans hD4 hbE.size
        have HL5 : Hid ((l ++ [s]).length = k + 1) := Lib.hid (by rw [List.length_append, hll.out]; rfl)
        have HF5 := Lib.hid (few_push hfl.out hs)
        clear hown5 hgrow5 hbE
        go_wp2
        go_roundw
        case rel => exact ⟨k + 1, _, p4, by omega, by go_num, HL5, HQ5, HF5, by omega, hR5, HO5, HG5, hD5⟩
        case measure => simp [intOf]; omega
      · obtain rfl : k = m := by omega
        go_wp2_with fail
        refine (sRender_any ps l _ _ _ HOi.out.reads HQ.out.reads (HF.out.small (by omega) (by rw [← HN.out]; omega)) (by rw [hll.out]; omega) (fun i hi => by have := hfl.out i hi; omega)).mono ?_
        rintro e w4 ⟨v4, rfl, ho4, hb4⟩
        have hR4 := hRi.below (C := wi.heap.size) (by omega) hRi.lt hb4
        have HG4 := Lib.hid (grown_tr HGi.out (grown_of_below hb4))
        have HL4 := Lib.hid (pl.rendR_len ps l)
        have HS4 := Lib.hid (pl.rendR_few ps l)
        obtain ⟨L, HLL⟩ : ∃ L, Hid (pl.rendR ps l = L) := ⟨_, Lib.hid rfl⟩
        rw [HLL.out] at ho4 HL4 HS4
        have HO4 := Lib.hid ho4
        obtain ⟨a4, c4, hv4⟩ := ho4.reads.slice
        obtain ⟨m4, HM4⟩ : ∃ m4, Hid (L.length = m4) := ⟨_, Lib.hid rfl⟩
        rw [HM4.out] at hv4 HL4
        have hm6' := HL4.out
        subst hv4
        clear ho4 hb4 HQ HOi HGi hRi
        by_cases h0 : m4 = 0
        · have h0i : ¬ (0 : Int) < (m4 : Int) := by omega
          clear h0
          go_wp2_with fail
          go_ret
          exact ⟨_, L, rfl, own_mono HO4.out (by omega), by rw [HM4.out]; exact HL4.out, fun i hi => by have := HS4.out i hi; omega, HB1.out.grown HG4.out HB1.out.size (fun k hk => by cases hk; exact Nat.le_refl _)⟩
        · have h0i : (0 : Int) < (m4 : Int) := by omega
          go_wp2_with fail
          refine (pick_any 6 w.heap.size w.heap.size n c q a _ hR4 (by omega) (by omega)).mono ?_
          rintro e w5 ⟨r, rfl, hr0, hr1, hR5, hg5⟩
          have HO5 := Lib.hid (HO4.out.read hg5 (by omega))
          have HG5 := Lib.hid (grown_tr HG4.out hg5)
          clear hg5 HO4 HG4 hR4
          by_cases e0 : r = 0
          · subst e0
            go_wp2_with fail
            refine (pick_any m4 w.heap.size w.heap.size n c (q + 1) a _ hR5 (by omega) (by omega)).mono ?_
            rintro e w6 ⟨k6, rfl, hk0, hk1, hR6, hg6⟩
            have hk2 := hk1 (by omega)
            obtain ⟨k6, rfl⟩ := Int.eq_ofNat_of_zero_le hk0
            have hk3 : k6 < m4 := by omega
            have HO6 := Lib.hid (HO5.out.read hg6 (by omega))
            have HG6 := Lib.hid (grown_tr HG5.out hg6)
            clear hg6 HO5 HG5 hR5 hk1
            obtain ⟨b6, o6, e6, hx6⟩ := HO6.out.reads.at HM4.out.symm (Below.refl _ _) hk3
            subst e6
            have hxs := HS4.out k6 (by rw [HM4.out]; exact hk3)
            obtain ⟨x, HX⟩ : ∃ x, Hid (nth L k6 = x) := ⟨_, Lib.hid rfl⟩
            rw [HX.out] at hx6 hxs
            go_wp2_with fail
            refine (mutate_any 95 x hxs (by omega) w.heap.size w.heap.size n c (q + 2) a _ hR6 (by omega)).mono ?_
            rintro e w7 ⟨y, rfl, hy, p7, hp7, hR7, hg7⟩
            have ho7 := HO6.out.read hg7 (by omega)
            obtain ⟨g7, hgB, rfl, rfl⟩ : ∃ g, wi.heap.size ≤ g ∧ b6 = g ∧ o6 = 0 := by
              rcases ho7.2 with ⟨hv, _⟩ | ⟨g, cap, cur, hv, hB, _⟩
              · cases hv
              · injection hv with e1 e2 e3; injection e1 with e1; injection e1 with e1 e4; exact ⟨g, hB, e1, e4⟩
            have ho7' : w7.ownsRow wi.heap.size 9 1 (.slice (some ⟨b6, 0, none⟩) m4 c4) m4 (L.map Value.string) := by
              have := ho7
              unfold OStrs at this
              rw [HM4.out] at this
              exact this
            have hc7 := own_cell ho7' HM4.out hk3
            have hf7 := World.ownsRow.frozenAt ho7' k6
            obtain ⟨hs8, hgs8⟩ := own_store (j := k6) ho7' y
            have HO8 : Hid (OStrs wi.heap.size (w7.setCell ⟨b6, k6, none⟩ (.string y)) (.slice (some ⟨b6, 0, none⟩) m4 c4) (L.set k6 y)) := Lib.hid (by
              unfold OStrs
              rw [List.length_set, HM4.out]; exact hs8)
            have HB7 := Lib.hid (HB1.out.grown (grown_tr HG6.out hg7) HB1.out.size (fun k hk => by cases hk; exact Nat.le_refl _))
            have HB8 := Lib.hid (HB7.out.setCell (p := ⟨b6, k6, none⟩) (by show w.heap.size ≤ b6; omega) (.string y))
            have HF8 : Hid (few 200 (L.set k6 y)) := Lib.hid (fun i hi => by
              rw [List.length_set] at hi
              by_cases e : i = k6
              · subst e; rw [nth_set_same hi]; omega
              · rw [nth_set_other hi e]; have := HS4.out i hi; omega)
            clear hs8 hgs8 ho7 ho7' hg7 hx6
            go_wp2_with fail
            go_ret
            exact ⟨_, _, rfl, own_mono HO8.out (by omega), by rw [List.length_set, HM4.out]; exact HL4.out, HF8.out, HB8.out⟩
          · have e0' : (r == 0) = false := beq_eq_false_iff_ne.2 e0
            clear e0
            go_wp2_with fail
            go_ret
            exact ⟨_, L, rfl, own_mono HO5.out (by omega), by rw [HM4.out]; exact HL4.out, fun i hi => by have := HS4.out i hi; omega, HB1.out.grown HG5.out HB1.out.size (fun k hk => by cases hk; exact Nat.le_refl _)⟩
end Go.Proofs.YtpfheanpbbfpdaaDoor
