/- Contract: DrawRenderRows. -/
import Derived.Test.YtgfpbnafehpopaaDoorDrawTb
import Derived.Test.YtgfpbnafehpopaaDoorPkB
namespace Go.Proofs.YtgfpbnafehpopaaDoor
open Go.RowKit
set_option maxRecDepth 100000
set_option linter.unusedVariables false

def DrewRH (w : World) (e : Ending) (w' : World) : Prop :=
  ∃ v u ps hs, e = .returned (.tuple #[v, u]) ∧ HPs w.heap.size w' v ps ∧ OStrs w.heap.size w' u hs ∧ ps.length ≤ 7 ∧ FewR 6 ps ∧ hs.length ≤ 7 ∧ few 40 hs ∧ Below w.heap.size w w'

set_option maxHeartbeats 8000000 in
theorem dRenderRows_any (a : Option Addr) (len cap : Nat) (zs : List Int) (w : World) (hr : IsRow .u8 w a len cap zs) :
    Calls Tryd.prog 10 #[.slice a len cap] w (DrewRH w) := by
  obtain ⟨i0, hi, hz0, hz1, hz2⟩ := info_parts infoS
  go_enter Tryd.func10, Tryd.ntmps10
  go_wp2_with fail
  refine (newReader_any a len cap zs _ hr).mono ?_
  rintro e w1 ⟨n, c, rfl, hR, hb1⟩
  have HB1 := Lib.hid hb1
  have hgw : w.heap.size < w1.heap.size := hR.lt
  clear hb1
  go_wp2_with fail
  refine (someRows_any _ _ n c 0 a _ hR (by omega)).mono ?_
  rintro e w2 ⟨v, ps, rfl, ⟨us, ho⟩, hl, hf, p2, hp2, hR2, hg2⟩
  have HO2 := Lib.hid ho
  have HF := Lib.hid hf
  have HG2 := Lib.hid hg2
  have hm6 : pl.colsN ps ≤ 6 := by
    by_cases h0 : ps.length = 0
    · rw [pl.colsN_nil h0]; omega
    · exact (hf 0 (by omega)).1
  have HZ : Hid (ps.length = 0 → pl.colsN ps = 0) := Lib.hid pl.colsN_nil
  obtain ⟨a0, c0, hv⟩ := ho.reads.slice
  obtain ⟨N, HN⟩ : ∃ N, Hid (N = ps.length) := ⟨_, Lib.hid rfl⟩
  obtain ⟨m, HM⟩ : ∃ m, Hid (pl.colsN ps = m) := ⟨_, Lib.hid rfl⟩
  rw [← HN.out] at hv hl HZ
  rw [HM.out] at hm6 HZ
  subst hv
  have hw12 : w1.heap.size ≤ w2.heap.size := hg2.size
  clear ho hf hg2 hR
  go_wp2_with fail
  have hR3 : Rdr w.heap.size w.heap.size n c p2 a (w2.alloc (.cells #[] 9)) := hR2.below (C := w2.heap.size) (by omega) hR2.lt ((Below.refl _ _).alloc (Nat.le_refl _) _)
  have HO3 : Hid (OPs w1.heap.size (w2.alloc (.cells #[] 9)) (.slice a0 N c0) us ps) := Lib.hid (HO2.out.below (Nat.le_refl _) ((Below.refl _ _).alloc (Nat.le_refl _) _))
  have LT := Lib.hid HO2.out.lt
  have HQ3 : Hid (OStrs w2.heap.size (w2.alloc (.cells #[] 9)) (.slice (some ⟨w2.heap.size, 0, none⟩) 0 0) []) := Lib.hid (World.ownsRow_made _ _ _ (Nat.le_refl _) (by unfold maxLen; omega) rfl)
  have HG3 := Lib.hid (grown_tr HG2.out (grown_al w2 (.cells #[] 9)))
  have hS3 : w2.heap.size ≤ (w2.alloc (.cells #[] 9)).heap.size := by simp
  obtain ⟨w3, HW3⟩ : ∃ u, Hid (w2.alloc (.cells #[] 9) = u) := ⟨_, Lib.hid rfl⟩
  rw [HW3.out] at hR3 HO3 HQ3 HG3 hS3 ⊢
  obtain ⟨D, HD⟩ : ∃ D, Hid (w2.heap.size = D) := ⟨_, Lib.hid rfl⟩
  rw [HD.out] at HQ3 LT hw12 hS3 ⊢
  have hwD : w1.heap.size ≤ D := hw12
  have hgD : w.heap.size < D := by omega
  clear HO2 HG2 hR2
  go_loopw [6, 7] (fun cv iv wi => ∃ (k : Nat) (l : List ByteArray) (q : Nat), k ≤ m ∧ iv = .int .i64 k ∧ Hid (l.length = k) ∧ Hid (OStrs D wi cv l) ∧ Hid (few 40 l) ∧ q ≤ 200 + k ∧ Rdr w.heap.size w.heap.size n c q a wi ∧ Hid (OPs w1.heap.size wi (.slice a0 N c0) us ps) ∧ Hid (w1.grownBy wi (some w.heap.size)) ∧ D ≤ wi.heap.size) (fun _ iv _ => m - (intOf iv).toNat)
  case atStart => exact ⟨0, [], p2, Nat.zero_le _, rfl, Lib.hid rfl, HQ3, Lib.hid (few_nil _), by omega, hR3, HO3, HG3, hS3⟩
  case round =>
    obtain ⟨k, l, q, hk, rfl, hll, HQ, hfl, hq, hRi, HOi, HGi, hDi⟩ := hrel
    obtain ⟨wi, rfl⟩ : ∃ wi : World, wi = wr := ⟨_, rfl⟩
    by_cases hN0 : N = 0
    · have hm0 : m = 0 := HZ.out hN0
      have hNi : ¬ (0 : Int) < (N : Int) := by omega
      clear hN0
      go_wp2_with fail
      refine (pick_any 30 w.heap.size w.heap.size n c q a _ hRi (by omega) (by omega)).mono ?_
      rintro e w4 ⟨r, rfl, hr0, hr1, hR4, hg4⟩
      have HQ4 := Lib.hid (HQ.out.read hg4 hgD)
      have HO4 := Lib.hid (HOi.out.readR hg4 hgw)
      have HG4 := Lib.hid (grown_tr HGi.out hg4)
      have hD4 : D ≤ w4.heap.size := Nat.le_trans hDi hg4.size
      clear hg4 HQ HOi HGi hRi
      by_cases e0 : r = 0
      · subst e0
        go_wp2_with fail
        refine (of_lit 40 2 _ rfl (by omega) (by omega) ?_ w.heap.size w.heap.size n c (q + 1) a _ hR4 (by omega)).mono ?_
        · simp [okStrs, ByteArray.size_mk']
        rintro e w5 ⟨s, rfl, hs, p5, hp5, hR5, hg5⟩
        have HQ5 := Lib.hid (HQ4.out.read hg5 hgD)
        have HO5 := Lib.hid (HO4.out.readR hg5 hgw)
        have HG5 := Lib.hid (grown_tr HG4.out hg5)
        have hD5 : D ≤ w5.heap.size := Nat.le_trans hD4 hg5.size
        clear hg5 HQ4 HO4 HG4 hR4
        go_wp2_with (at_builtin; refine wpList_append_own _ rfl _ _ 24 rfl D 9 i0 (.string ByteArray.empty) 1 16 Tryd.underlying24 hi hz0 hz1 hz2 rfl (by decide) _ _ _ rfl (World.ownsRow.alloc HQ5.out _) ⟨w5.heap.size, 0, none⟩ 1 1 [.string s] rfl rfl ?kb1 ?kb2 ?kb3 ?kb4 ?kb5 ?_)
        case kb1 => exact cell_one_new _ _ _
        case kb2 => intro u hu; simp at hu; subst hu; rfl
        case kb3 => rw [hll.out]; unfold maxLen; omega
        case kb4 => rw [hll.out]; omega
        case kb5 => simp; omega
        intro v6 w6 hown6 hgrow6 _
        have HQ6 := Lib.hid (OStrs.push1 hown6)
        have hbE : Below D w5 w6 := ((Below.refl _ _).alloc hD5 _).grown hgrow6 (by simp; omega) (fun k hk => (World.ownsRow.lt HQ5.out k hk).1)
        have HO6 : Hid (OPs w1.heap.size w6 (.slice a0 N c0) us ps) := Lib.hid (OPs.grown (HO5.out.below (Nat.le_refl _) ((Below.refl _ _).alloc (Nat.le_refl _) _)) (World.ownsRow.alloc HQ5.out _) hgrow6 (.inr LT.out))
        have HG6 := Lib.hid (grown_then HG5.out (hbE.mono hwD))
        clear hown6 hgrow6 hbE
        go_wp2
        go_ret2
        exact ⟨_, _, ps, _, rfl, ⟨us, HO6.out.mono HB1.out.size⟩, own_mono HQ6.out (Nat.le_trans HB1.out.size hwD), by rw [← HN.out]; exact hl, HF.out, by rw [List.length_append, hll.out]; simp; omega, few_push hfl.out hs, HB1.out.grown HG6.out HB1.out.size (fun k hk => by cases hk; exact Nat.le_refl _)⟩
      · have e0' : (r == 0) = false := beq_eq_false_iff_ne.2 e0
        clear e0
        go_wp2_with fail
        go_ret2
        exact ⟨_, _, ps, _, rfl, ⟨us, HO4.out.mono HB1.out.size⟩, own_mono HQ4.out (Nat.le_trans HB1.out.size hwD), by rw [← HN.out]; exact hl, HF.out, by rw [hll.out]; omega, hfl.out, HB1.out.grown HG4.out HB1.out.size (fun k hk => by cases hk; exact Nat.le_refl _)⟩
    · have hNp : 0 < N := by omega
      have hNi : (0 : Int) < (N : Int) := by omega
      obtain ⟨b1, o1, u0, e1, hb1, hc1, hu1⟩ := HOi.out.reads.at HN.out (Below.refl _ _) hNp
      obtain ⟨au, cu, hvu⟩ := hu1.1.slice
      rw [Nat.add_zero, hvu, show (pl.nthP ps 0).length = m from HM.out] at hc1
      subst e1
      clear hu1 hvu hb1
      by_cases hlt : k < m
      · have hlti : (k : Int) < (m : Int) := by omega
        go_wp2_with fail
        refine (of_lit 40 3 _ rfl (by omega) (by omega) ?_ w.heap.size w.heap.size n c q a _ hRi (by omega)).mono ?_
        · simp [okStrs, ByteArray.size_mk']
        rintro e w4 ⟨s, rfl, hs, p4, hp4, hR4, hg4⟩
        have HQ4 := Lib.hid (HQ.out.read hg4 hgD)
        have HO4 := Lib.hid (HOi.out.readR hg4 hgw)
        have HG4 := Lib.hid (grown_tr HGi.out hg4)
        have hD4 : D ≤ w4.heap.size := Nat.le_trans hDi hg4.size
        clear hg4 HQ HOi HGi hRi hc1
        go_wp2_with (at_builtin; refine wpList_append_own _ rfl _ _ 24 rfl D 9 i0 (.string ByteArray.empty) 1 16 Tryd.underlying24 hi hz0 hz1 hz2 rfl (by decide) _ _ _ rfl (World.ownsRow.alloc HQ4.out _) ⟨w4.heap.size, 0, none⟩ 1 1 [.string s] rfl rfl ?ka1 ?ka2 ?ka3 ?ka4 ?ka5 ?_)
        case ka1 => exact cell_one_new _ _ _
        case ka2 => intro u hu; simp at hu; subst hu; rfl
        case ka3 => rw [hll.out]; unfold maxLen; omega
        case ka4 => rw [hll.out]; omega
        case ka5 => simp; omega
        intro v5 w5 hown5 hgrow5 _
        have HQ5 := Lib.hid (OStrs.push1 hown5)
        have hbE : Below D w4 w5 := ((Below.refl _ _).alloc hD4 _).grown hgrow5 (by simp; omega) (fun k hk => (World.ownsRow.lt HQ4.out k hk).1)
        have HO5 : Hid (OPs w1.heap.size w5 (.slice (some ⟨b1, o1, none⟩) N c0) us ps) := Lib.hid (OPs.grown (HO4.out.below (Nat.le_refl _) ((Below.refl _ _).alloc (Nat.le_refl _) _)) (World.ownsRow.alloc HQ4.out _) hgrow5 (.inr LT.out))
        have HG5 := Lib.hid (grown_then HG4.out (hbE.mono hwD))
        have hR5 := hR4.below (C := D) (by omega) hgD hbE
        have hD5 : D ≤ w5.heap.size := Nat.le_trans hD4 hbE.size
        have HL5 : Hid ((l ++ [s]).length = k + 1) := Lib.hid (by rw [List.length_append, hll.out]; rfl)
        have HF5 := Lib.hid (few_push hfl.out hs)
        clear hown5 hgrow5 hbE
        go_wp2
        go_roundw
        case rel => exact ⟨k + 1, _, p4, by omega, by go_num, HL5, HQ5, HF5, by omega, hR5, HO5, HG5, hD5⟩
        case measure => simp [intOf]; omega
      · obtain rfl : k = m := by omega
        go_wp2_with fail
        refine (pick_any 30 w.heap.size w.heap.size n c q a _ hRi (by omega) (by omega)).mono ?_
        rintro e w4 ⟨r, rfl, hr0, hr1, hR4, hg4⟩
        have HQ4 := Lib.hid (HQ.out.read hg4 hgD)
        have HO4 := Lib.hid (HOi.out.readR hg4 hgw)
        have HG4 := Lib.hid (grown_tr HGi.out hg4)
        have hD4 : D ≤ w4.heap.size := Nat.le_trans hDi hg4.size
        clear hg4 HQ HOi HGi hRi hc1
        by_cases e0 : r = 0
        · subst e0
          go_wp2_with fail
          refine (of_lit 40 2 _ rfl (by omega) (by omega) ?_ w.heap.size w.heap.size n c (q + 1) a _ hR4 (by omega)).mono ?_
          · simp [okStrs, ByteArray.size_mk']
          rintro e w5 ⟨s, rfl, hs, p5, hp5, hR5, hg5⟩
          have HQ5 := Lib.hid (HQ4.out.read hg5 hgD)
          have HO5 := Lib.hid (HO4.out.readR hg5 hgw)
          have HG5 := Lib.hid (grown_tr HG4.out hg5)
          have hD5 : D ≤ w5.heap.size := Nat.le_trans hD4 hg5.size
          clear hg5 HQ4 HO4 HG4 hR4
          go_wp2_with (at_builtin; refine wpList_append_own _ rfl _ _ 24 rfl D 9 i0 (.string ByteArray.empty) 1 16 Tryd.underlying24 hi hz0 hz1 hz2 rfl (by decide) _ _ _ rfl (World.ownsRow.alloc HQ5.out _) ⟨w5.heap.size, 0, none⟩ 1 1 [.string s] rfl rfl ?kb1 ?kb2 ?kb3 ?kb4 ?kb5 ?_)
          case kb1 => exact cell_one_new _ _ _
          case kb2 => intro u hu; simp at hu; subst hu; rfl
          case kb3 => rw [hll.out]; unfold maxLen; omega
          case kb4 => rw [hll.out]; omega
          case kb5 => simp; omega
          intro v6 w6 hown6 hgrow6 _
          have HQ6 := Lib.hid (OStrs.push1 hown6)
          have hbE : Below D w5 w6 := ((Below.refl _ _).alloc hD5 _).grown hgrow6 (by simp; omega) (fun k hk => (World.ownsRow.lt HQ5.out k hk).1)
          have HO6 : Hid (OPs w1.heap.size w6 (.slice (some ⟨b1, o1, none⟩) N c0) us ps) := Lib.hid (OPs.grown (HO5.out.below (Nat.le_refl _) ((Below.refl _ _).alloc (Nat.le_refl _) _)) (World.ownsRow.alloc HQ5.out _) hgrow6 (.inr LT.out))
          have HG6 := Lib.hid (grown_then HG5.out (hbE.mono hwD))
          clear hown6 hgrow6 hbE
          go_wp2
          go_ret2
          exact ⟨_, _, ps, _, rfl, ⟨us, HO6.out.mono HB1.out.size⟩, own_mono HQ6.out (Nat.le_trans HB1.out.size hwD), by rw [← HN.out]; exact hl, HF.out, by rw [List.length_append, hll.out]; simp; omega, few_push hfl.out hs, HB1.out.grown HG6.out HB1.out.size (fun k hk => by cases hk; exact Nat.le_refl _)⟩
        · have e0' : (r == 0) = false := beq_eq_false_iff_ne.2 e0
          clear e0
          go_wp2_with fail
          go_ret2
          exact ⟨_, _, ps, _, rfl, ⟨us, HO4.out.mono HB1.out.size⟩, own_mono HQ4.out (Nat.le_trans HB1.out.size hwD), by rw [← HN.out]; exact hl, HF.out, by rw [hll.out]; omega, hfl.out, HB1.out.grown HG4.out HB1.out.size (fun k hk => by cases hk; exact Nat.le_refl _)⟩
end Go.Proofs.YtgfpbnafehpopaaDoor
