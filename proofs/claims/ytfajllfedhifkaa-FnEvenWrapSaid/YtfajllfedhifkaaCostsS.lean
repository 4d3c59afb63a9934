/- Contract: the model's leastCosts. -/
import Derived.Test.YtfajllfedhifkaaPlainE
import Derived.Test.YtfajllfedhifkaaSub
import Derived.Test.YtfajllfedhifkaaWaysA
import Derived.StillTailTactics
import Derived.Deep.QuietTactic
import Derived.BigQuiet
namespace Go.Proofs.Ytfajllfedhifkaa
open Go.RowKit
set_option maxRecDepth 100000

theorem square_q (a m S : Int) (ha : a = m) (hS : m * m = S) (hs : S ≤ 14400) (w : World) (n : Nat) :
    Calls Try.prog 84 #[.int .i64 a] (w.drewN n) fun e w'' => e = .returned (.int .i64 S) ∧ ∃ m, w'' = w.drewN m := by
  subst ha
  subst hS
  exact (square_any a _ hs).mono fun _ _ ⟨h1, h2⟩ => ⟨h1, n, h2.symm⟩

set_option maxHeartbeats 4000000 in
theorem leastCosts_any (l : List ByteArray) (wd : Int) (v : Value) (w : World) (hl : LStrs w v l) (hlen : l.length ≤ maxLen) (hsz : ∀ i, i < l.length → (nth l i).size ≤ maxLen) (hfit : pl.fitA l wd = true) :
    Calls Try.prog 85 #[v, .int .i64 wd] w fun e w' => ∃ g zs, e = .returned (.slice (some ⟨g, 0, none⟩) (l.length + 1) (l.length + 1)) ∧ OInts w.heap.size w' (.slice (some ⟨g, 0, none⟩) (l.length + 1) (l.length + 1)) (l.length + 1) zs ∧ pl.CsInv wd l 0 zs ∧ Below w.heap.size w w' := by
  obtain ⟨i0, hi, hz0, hz1, hz2⟩ := info_parts infoI
  have hp := pl.fitA_parts hfit
  have H12 := Lib.hid (pl.words_12 hp.2.1)
  have hwd := hp.2.2
  have hall := Lib.hid (pl.allFit_of (pl.shortAll_yes hp.1))
  obtain ⟨hr, a0, cap0, rfl, hcap⟩ := hl
  obtain ⟨N, hN⟩ : ∃ N, N = l.length := ⟨_, rfl⟩
  have h9 : N ≤ 9 := by rw [hN]; exact (pl.vWords_parts hp.2.1).1
  rw [← hN] at hr hcap ⊢
  have HN := Lib.hid hN
  have HR := Lib.hid hr
  have HLn := Lib.hid hlen
  have HSZ := Lib.hid hsz
  have hlb : Hid (∀ t, 0 ≤ pl.lF wd (l.drop t) ∧ pl.lF wd (l.drop t) ≤ 129600) := Lib.hid (fun t => pl.lF_bound hwd.2 (by rw [List.length_drop, ← HN.out]; omega) (pl.allFit_drop hall.out t))
  clear hr hlen hsz hN hp hfit
  go_enter Try.func85, Try.ntmps85
  go_wp2_with (at_make; refine wpList_make_full _ rfl _ _ 61 rfl w.heap.size 3 i0 (.int .i64 0) 1 Try.underlying61 hi hz0 hz1 _ _ _ _ (N + 1) (by first | rfl | (simp only [Int.natCast_add, Int.natCast_one])) rfl rfl rfl ?b1 ?b2 ?b3 ?_)
  case b1 => rw [hz2]; omega
  case b2 => unfold maxLen; omega
  case b3 => exact Nat.le_refl _
  intro w1 hown hgrow
  have hb0 : Below w.heap.size w w1 := (Below.refl _ _).grown hgrow (Nat.le_refl _) (fun g hg => by cases hg)
  have hown1 : OInts w.heap.size w1 (.slice (some ⟨w.heap.size, 0, none⟩) (N + 1) (N + 1)) (N + 1) (List.replicate (N + 1) 0) := by
    rw [toList_madeCells_one, ← List.map_replicate] at hown; exact hown
  clear hown hgrow
  have hst : Hid (pl.CsInv wd l N (List.replicate (N + 1) 0)) := Lib.hid (by
    have hNl := HN.out
    refine ⟨by rw [List.length_replicate, hNl], fun t ht1 ht2 => ?_⟩
    obtain rfl : t = N := by omega
    rw [List.getElem?_replicate, if_pos (by omega), hNl, pl.drop_end]; rfl)
  go_wp2_with fail
  go_loopw [7] (fun iv wr => ∃ (j : Nat) (zs : List Int), j ≤ N ∧ iv = .int .i64 ((j : Int) - 1) ∧ Hid (pl.CsInv wd l j zs) ∧ OInts w.heap.size wr (.slice (some ⟨w.heap.size, 0, none⟩) (N + 1) (N + 1)) (N + 1) zs ∧ Below w.heap.size w wr) (fun iv _ => (intOf iv + 1).toNat)
  case atStart => exact ⟨N, _, Nat.le_refl _, rfl, hst, hown1, hb0⟩
  case round =>
    obtain ⟨j, zs, hj, rfl, hinv, hown, hbel⟩ := hrel
    by_cases hj0 : 0 < j
    · obtain ⟨i, rfl⟩ : ∃ i, j = i + 1 := ⟨j - 1, by omega⟩
      have hs1 := Lib.hid (pl.csin_start hinv.out (by rw [← HN.out]; omega))
      obtain ⟨b1, o1, rfl, _⟩ := HR.out.at HN.out hbel (k := i) (by omega)
      obtain ⟨z0, hz0'⟩ : ∃ z, zs[i]? = some z := ⟨zs[i]'(by rw [ints_len hown]; omega), List.getElem?_eq_getElem _⟩
      have c0 := ints_cell hown (j := i) (by omega) hz0'
      have f0 := World.ownsRow.frozenAt hown i
      have HO0 := Lib.hid (ints_store (j := i) hown (-1))
      have HB0 := Lib.hid (hbel.setCell (p := ⟨w.heap.size, i, none⟩) (Nat.le_refl _) (.int .i64 (-1)))
      obtain ⟨W0, rfl⟩ : ∃ W0, W0 = wr := ⟨_, rfl⟩
      clear hown hbel hz0'
      rw [show (((i + 1 : Nat) : Int) - 1) = (i : Int) from by omega]
      go_wp2_with fail
      go_loopw [8] (fun kv wr => ∃ (k : Nat) (b : Int) (zs : List Int), i + 1 ≤ k ∧ k ≤ N + 1 ∧ kv = .int .i64 k ∧ -1 ≤ b ∧ b ≤ 200000 ∧ Hid (pl.CsIn wd l i k b zs) ∧ OInts w.heap.size wr (.slice (some ⟨w.heap.size, 0, none⟩) (N + 1) (N + 1)) (N + 1) zs ∧ Below w.heap.size w wr) (fun kv _ => N + 1 - (intOf kv).toNat)
      case atStart => exact ⟨i + 1, -1, _, Nat.le_refl _, by omega, by go_num, by omega, by omega, hs1, HO0.out, HB0.out⟩
      case round =>
        obtain ⟨k, b, zs, hk1, hk2, rfl, hb1, hb2, hin2, hown, hbel⟩ := hrel
        by_cases hkN : k ≤ N
        · have hRS := Lib.hid (RStrs.sub (c := cap0 - i) (HR.out.below (Nat.le_refl _) hbel) HN.out (show i < k by omega) hkN)
          obtain ⟨J, hJ⟩ : ∃ J, Hid (pl.joinB (pl.pc l i k) ⟨#[32]⟩ = J) := ⟨_, Lib.hid rfl⟩
          have hJs : Hid (J.size = pl.szJ (pl.pc l i k)) := Lib.hid (by rw [← hJ.out]; rfl)
          have hJb : J.size ≤ 117 := by rw [hJs.out]; have := pl.szJ_pc (l := l) (i := i) (k := k) H12.out; have := HN.out; omega
          by_cases hlong : wd < (J.size : Int)
          · have hf : Hid (pl.fitL wd (pl.pc l i k) = false) := Lib.hid (by unfold pl.fitL; rw [← hJs.out]; exact decide_eq_false (by omega))
            have hdn := Lib.hid (pl.csin_done hin2.out (pl.remC_no hf.out))
            go_wp2_with fail
            refine (sjoin_any (pl.pc l i k) ⟨#[32]⟩ _ _ hRS.out (by rw [pl.pc_len (by rw [← HN.out]; exact hkN)]; omega) (by rw [hJ.out]; omega)).mono ?_
            rintro e w' ⟨rfl, rfl⟩
            rw [hJ.out]
            go_wp2_with fail
            go_roundw
            case rel => exact ⟨i, zs, by omega, by first | rfl | go_num, hdn, hown, hbel⟩
            case measure => first | (simp [intOf]; done) | (simp [intOf]; omega)
          · have hf : Hid (pl.fitL wd (pl.pc l i k) = true) := Lib.hid (by unfold pl.fitL; rw [← hJs.out]; exact decide_eq_true (by omega))
            obtain ⟨F, hF⟩ : ∃ F, Hid (pl.lF wd (l.drop k) = F) := ⟨_, Lib.hid rfl⟩
            have hFb : 0 ≤ F ∧ F ≤ 129600 := by rw [← hF.out]; exact hlb.out k
            obtain ⟨m, hm⟩ : ∃ m : Int, wd - (J.size : Int) = m := ⟨_, rfl⟩
            have hmb := pl.miss_bound (wd := wd) (a := (J.size : Int)) (by omega) (by omega) hwd.2
            rw [hm] at hmb
            obtain ⟨S, hS⟩ : ∃ S, m * m = S := ⟨_, rfl⟩
            rw [hS] at hmb
            have HS := Lib.hid hS
            have HM := Lib.hid hm
            clear hS
            have hsq : Hid (pl.sqL wd (pl.pc l i k) = S) := Lib.hid (by unfold pl.sqL; rw [← hJs.out, HM.out, HS.out])
            have ci := ints_cell hown (j := i) (by omega) hin2.out.2.2.1
            have fi := World.ownsRow.frozenAt hown i
            have ck : wr.cell? ⟨w.heap.size, k, none⟩ = some (.int .i64 F) := by
              rw [← hF.out]
              exact ints_cell hown (j := k) (by omega) (hin2.out.2.1 k hk1 (by rw [← HN.out]; exact hkN))
            have hiN : (i : Int) < (N : Int) + 1 := by omega
            have hkN1 : (k : Int) < (N : Int) + 1 := by omega
            go_wp2_with fail
            refine (sjoin_any (pl.pc l i k) ⟨#[32]⟩ _ _ hRS.out (by rw [pl.pc_len (by rw [← HN.out]; exact hkN)]; omega) (by rw [hJ.out]; omega)).mono ?_
            rintro e w' ⟨rfl, rfl⟩
            rw [hJ.out]
            go_wp2_with fail
            go_quiet ((go_at_call 84; exact square_q _ m S (by omega) HS.out (by omega) _ _))
            have hownD : OInts w.heap.size (wr.drewN nq) (.slice (some ⟨w.heap.size, 0, none⟩) (N + 1) (N + 1)) (N + 1) zs := hown
            have ciD : (wr.drewN nq).cell? ⟨w.heap.size, i, none⟩ = some (.int .i64 b) := ci
            have fiD : (wr.drewN nq).frozen? ⟨w.heap.size, i, none⟩ = false := fi
            have hbD : Below w.heap.size w (wr.drewN nq) := hbel.trans below_drewN
            clear hown hbel ci ck fi hRS
            generalize wr.drewN nq = w2 at hownD hbD ciD fiD ⊢
            have hil : i < l.length := by rw [← HN.out]; omega
            by_cases hkn : k = N
            · subst hkn
              have hcC : Hid ((0 : Int) = if k = l.length then 0 else pl.lF wd (l.drop k) + pl.sqL wd (pl.pc l i k)) := Lib.hid (by rw [if_pos HN.out])
              by_cases hb0 : b < 0
              · have hst2 : pl.remC wd l i (k + 1) ((0 : Int)) = pl.remC wd l i k b := by
                  rw [← cs_step (by omega) (by rw [← HN.out]; omega) hf.out hcC.out]
                  congr 1; unfold pl.upd; rw [if_pos (.inl hb0)]
                have HI := Lib.hid (pl.csin_set hin2.out hil hst2)
                have HO := Lib.hid (ints_store (j := i) hownD ((0 : Int)))
                have HB := Lib.hid (hbD.setCell (p := ⟨w.heap.size, i, none⟩) (Nat.le_refl _) (.int .i64 ((0 : Int))))
                clear hownD hbD hst2 hil
                go_wp2_with fail
                go_roundw
                case rel => exact ⟨_, (0 : Int), _, by omega, by omega, by go_num, by omega, by omega, HI, HO.out, HB.out⟩
                case measure => first | (simp [intOf]; done) | (simp [intOf]; omega)
              · by_cases hcb : (0 : Int) < b
                · have hst2 : pl.remC wd l i (k + 1) ((0 : Int)) = pl.remC wd l i k b := by
                    rw [← cs_step (by omega) (by rw [← HN.out]; omega) hf.out hcC.out]
                    congr 1; unfold pl.upd; rw [if_pos (.inr hcb)]
                  have HI := Lib.hid (pl.csin_set hin2.out hil hst2)
                  have HO := Lib.hid (ints_store (j := i) hownD ((0 : Int)))
                  have HB := Lib.hid (hbD.setCell (p := ⟨w.heap.size, i, none⟩) (Nat.le_refl _) (.int .i64 ((0 : Int))))
                  clear hownD hbD hst2 hil
                  go_wp2_with fail
                  go_roundw
                  case rel => exact ⟨_, (0 : Int), _, by omega, by omega, by go_num, by omega, by omega, HI, HO.out, HB.out⟩
                  case measure => first | (simp [intOf]; done) | (simp [intOf]; omega)
                · have hst2 : pl.remC wd l i (k + 1) b = pl.remC wd l i k b := by
                    rw [← cs_step (by omega) (by rw [← HN.out]; omega) hf.out hcC.out]
                    congr 1; unfold pl.upd; rw [if_neg (by omega)]
                  have HI := Lib.hid (pl.csin_keep hin2.out hst2)
                  have HO := Lib.hid hownD
                  have HB := Lib.hid hbD
                  clear hownD hbD hst2 hil
                  go_wp2_with fail
                  go_roundw
                  case rel => exact ⟨_, b, _, by omega, by omega, by go_num, by omega, by omega, HI, HO.out, HB.out⟩
                  case measure => first | (simp [intOf]; done) | (simp [intOf]; omega)
            · have hne : ¬ (k : Int) = (N : Int) := by omega
              have hcC : Hid (F + S = if k = l.length then 0 else pl.lF wd (l.drop k) + pl.sqL wd (pl.pc l i k)) := Lib.hid (by rw [if_neg (by rw [← HN.out]; exact hkn), hF.out, hsq.out])
              by_cases hb0 : b < 0
              · have hst2 : pl.remC wd l i (k + 1) (F + S) = pl.remC wd l i k b := by
                  rw [← cs_step (by omega) (by rw [← HN.out]; omega) hf.out hcC.out]
                  congr 1; unfold pl.upd; rw [if_pos (.inl hb0)]
                have HI := Lib.hid (pl.csin_set hin2.out hil hst2)
                have HO := Lib.hid (ints_store (j := i) hownD (F + S))
                have HB := Lib.hid (hbD.setCell (p := ⟨w.heap.size, i, none⟩) (Nat.le_refl _) (.int .i64 (F + S)))
                clear hownD hbD hst2 hil
                go_wp2_with fail
                go_roundw
                case rel => exact ⟨_, F + S, _, by omega, by omega, by go_num, by omega, by omega, HI, HO.out, HB.out⟩
                case measure => first | (simp [intOf]; done) | (simp [intOf]; omega)
              · by_cases hcb : F + S < b
                · have hst2 : pl.remC wd l i (k + 1) (F + S) = pl.remC wd l i k b := by
                    rw [← cs_step (by omega) (by rw [← HN.out]; omega) hf.out hcC.out]
                    congr 1; unfold pl.upd; rw [if_pos (.inr hcb)]
                  have HI := Lib.hid (pl.csin_set hin2.out hil hst2)
                  have HO := Lib.hid (ints_store (j := i) hownD (F + S))
                  have HB := Lib.hid (hbD.setCell (p := ⟨w.heap.size, i, none⟩) (Nat.le_refl _) (.int .i64 (F + S)))
                  clear hownD hbD hst2 hil
                  go_wp2_with fail
                  go_roundw
                  case rel => exact ⟨_, F + S, _, by omega, by omega, by go_num, by omega, by omega, HI, HO.out, HB.out⟩
                  case measure => first | (simp [intOf]; done) | (simp [intOf]; omega)
                · have hst2 : pl.remC wd l i (k + 1) b = pl.remC wd l i k b := by
                    rw [← cs_step (by omega) (by rw [← HN.out]; omega) hf.out hcC.out]
                    congr 1; unfold pl.upd; rw [if_neg (by omega)]
                  have HI := Lib.hid (pl.csin_keep hin2.out hst2)
                  have HO := Lib.hid hownD
                  have HB := Lib.hid hbD
                  clear hownD hbD hst2 hil
                  go_wp2_with fail
                  go_roundw
                  case rel => exact ⟨_, b, _, by omega, by omega, by go_num, by omega, by omega, HI, HO.out, HB.out⟩
                  case measure => first | (simp [intOf]; done) | (simp [intOf]; omega)
        · obtain rfl : k = N + 1 := by omega
          have hdn := Lib.hid (pl.csin_done hin2.out (by rw [HN.out]; exact pl.remC_end))
          go_wp2_with fail
          go_roundw
          case rel => exact ⟨i, zs, by omega, by first | rfl | go_num, hdn, hown, hbel⟩
          case measure => first | (simp [intOf]; done) | (simp [intOf]; omega)
    · obtain rfl : j = 0 := by omega
      have hI := Lib.hid hown
      go_wp2_with fail
      go_ret
      exact ⟨_, zs, rfl, hI.out, hinv.out, hbel⟩
end Go.Proofs.Ytfajllfedhifkaa
