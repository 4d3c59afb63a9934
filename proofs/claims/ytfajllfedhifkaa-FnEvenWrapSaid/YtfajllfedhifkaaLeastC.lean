/- Contract: the laws' leastCost. -/
import Derived.Test.YtfajllfedhifkaaPlainE
import Derived.Test.YtfajllfedhifkaaSub
import Derived.Test.YtfajllfedhifkaaJoin
namespace Go.Proofs.Ytfajllfedhifkaa
open Go.RowKit
set_option maxRecDepth 100000

theorem RStrs.front {w : World} {b o n cap k c : Nat} {l : List ByteArray} (h : RStrs w (.slice (some ⟨b, o, none⟩) n cap) l) (hn : n = l.length) (h0 : 0 < k) (hk : k ≤ n) : RStrs w (.slice (some ⟨b, o, none⟩) k c) (pl.pc l 0 k) := by
  have := RStrs.sub (c := c) h hn h0 hk
  rwa [Nat.add_zero, Nat.sub_zero] at this
theorem pc_back {l : List ByteArray} {k : Nat} : pl.pc l k l.length = l.drop k := by
  unfold pl.pc
  exact List.take_of_length_le (by rw [List.length_drop]; exact Nat.le_refl _)

set_option maxHeartbeats 4000000 in
theorem leastCost_any (wd : Int) (h1 : 1 ≤ wd) (h2 : wd ≤ 120) : ∀ (n : Nat) (l : List ByteArray) (v : Value) (w : World), n = l.length → n ≤ 9 → LStrs w v l → pl.allFit wd l → (∀ x ∈ l, x.size ≤ 12) →
    Calls Try.prog 29 #[v, .int .i64 wd] w fun e w' => e = .returned (.int .i64 (pl.lF wd l)) ∧ w = w' := by
  intro n
  induction n using Nat.strongRecOn with
  | ind n ih =>
  intro l v w hn h9 hl hall h12
  have HL := Lib.hid hl
  have HA := Lib.hid hall
  have H12 := Lib.hid h12
  have HN := Lib.hid hn
  have hlb : Hid (∀ t, 0 ≤ pl.lF wd (l.drop t) ∧ pl.lF wd (l.drop t) ≤ 129600) := Lib.hid (fun t => pl.lF_bound h2 (by rw [List.length_drop, ← HN.out]; omega) (pl.allFit_drop HA.out t))
  have hl0 := hlb.out 0
  rw [List.drop_zero] at hl0
  obtain ⟨hr, a0, cap0, rfl, hcap⟩ := hl
  rw [← hn] at hr hcap ⊢
  have HR := Lib.hid hr
  have IH := Lib.hid ih
  clear ih hr hall h12 HL
  by_cases hz : n = 0
  · have he : Hid (pl.lF wd l = 0) := Lib.hid (by
      have : l = [] := List.length_eq_zero_iff.1 (by rw [← hn]; exact hz)
      rw [this]; rfl)
    subst hz
    clear hn hcap
    go_enter Try.func29, Try.ntmps29
    go_wp2_with fail
    refine wp_loop_rounds 1 ?_
    rw [rounds_succ]
    go_wp2_with fail
    go_ret
    exact ⟨by rw [he.out]; rfl, rfl⟩
  · obtain ⟨b1, o1, rfl, _⟩ := HR.out.at HN.out (Below.refl _ _) (k := 0) (by omega)
    have hst : Hid (pl.remC wd l 0 1 (-1) = pl.lF wd l) := Lib.hid (by
      have := pl.remC_start (wd := wd) (l := l) (i := 0) (by omega)
      rwa [List.drop_zero] at this)
    obtain ⟨L0, hL0⟩ : ∃ L, Hid (pl.lF wd l = L) := ⟨_, Lib.hid rfl⟩
    rw [hL0.out] at hl0
    clear hn
    go_enter Try.func29, Try.ntmps29
    go_wp2_with fail
    go_loop [5, 6] (fun bv kv => ∃ (k : Nat) (b : Int), 1 ≤ k ∧ k ≤ n + 1 ∧ kv = .int .i64 k ∧ bv = .int .i64 b ∧ -1 ≤ b ∧ b ≤ 200000 ∧ Hid (pl.remC wd l 0 k b = pl.lF wd l)) (fun _ kv => n + 1 - (intOf kv).toNat)
    case atStart => exact ⟨1, -1, by omega, by omega, by first | rfl | go_num, rfl, by omega, by omega, hst⟩
    case round =>
      obtain ⟨k, b, hk1, hk2, rfl, rfl, hb1, hb2, hin⟩ := hrel
      by_cases hkN : k ≤ n
      · have hRS := Lib.hid (RStrs.front (c := cap0) HR.out HN.out (show 0 < k by omega) hkN)
        obtain ⟨J, hJ⟩ : ∃ J, Hid (pl.joinB (pl.pc l 0 k) ⟨#[32]⟩ = J) := ⟨_, Lib.hid rfl⟩
        have hJs : Hid (J.size = pl.szJ (pl.pc l 0 k)) := Lib.hid (by rw [← hJ.out]; rfl)
        have hJb : J.size ≤ 117 := by rw [hJs.out]; have := pl.szJ_pc (l := l) (i := 0) (k := k) H12.out; have := HN.out; omega
        have hkc : k ≤ cap0 := by omega
        by_cases hlong : wd < (J.size : Int)
        · have hf : Hid (pl.fitL wd (pl.pc l 0 k) = false) := Lib.hid (by unfold pl.fitL; rw [← hJs.out]; exact decide_eq_false (by omega))
          have hdn : Hid (b = pl.lF wd l) := Lib.hid (by rw [← hin.out, pl.remC_no hf.out])
          have hbL : b = L0 := by rw [hdn.out, hL0.out]
          go_wp2_with fail
          refine (joined_any (pl.pc l 0 k) ⟨#[32]⟩ _ _ hRS.out (by rw [pl.pc_len (by rw [← HN.out]; exact hkN)]; omega) (by rw [hJ.out]; omega)).mono ?_
          rintro e w' ⟨rfl, rfl⟩
          rw [hJ.out]
          go_wp2_with fail
          go_ret
          exact ⟨by rw [hL0.out]; simp [Int.max_eq_left hl0.1], rfl⟩
        · have hf : Hid (pl.fitL wd (pl.pc l 0 k) = true) := Lib.hid (by unfold pl.fitL; rw [← hJs.out]; exact decide_eq_true (by omega))
          by_cases hkn : k = n
          · subst hkn
            have hcC : Hid ((0 : Int) = if k = l.length then 0 else pl.lF wd (l.drop k) + pl.sqL wd (pl.pc l 0 k)) := Lib.hid (by rw [if_pos HN.out])
            have hkn2 : ¬ (k : Int) < (k : Int) := by omega
            go_wp2_with fail
            refine (joined_any (pl.pc l 0 k) ⟨#[32]⟩ _ _ hRS.out (by rw [pl.pc_len (by rw [← HN.out]; exact hkN)]; omega) (by rw [hJ.out]; omega)).mono ?_
            rintro e w' ⟨rfl, rfl⟩
            rw [hJ.out]
            by_cases hb0 : b < 0
            · have hst2 : Hid (pl.remC wd l 0 (k + 1) ((0 : Int)) = pl.lF wd l) := Lib.hid (by
                rw [← hin.out, ← cs_step (by omega) (by rw [← HN.out]; omega) hf.out hcC.out]
                congr 1; unfold pl.upd; rw [if_pos (.inl hb0)])
              go_wp2_with fail
              go_round
              case rel => exact ⟨_, (0 : Int), by omega, by omega, by go_num, by first | rfl | go_num, by omega, by omega, hst2⟩
              case measure => first | (simp [intOf]; done) | (simp [intOf]; omega)
            · by_cases hcb : (0 : Int) < b
              · have hst2 : Hid (pl.remC wd l 0 (k + 1) ((0 : Int)) = pl.lF wd l) := Lib.hid (by
                  rw [← hin.out, ← cs_step (by omega) (by rw [← HN.out]; omega) hf.out hcC.out]
                  congr 1; unfold pl.upd; rw [if_pos (.inr hcb)])
                go_wp2_with fail
                go_round
                case rel => exact ⟨_, (0 : Int), by omega, by omega, by go_num, by first | rfl | go_num, by omega, by omega, hst2⟩
                case measure => first | (simp [intOf]; done) | (simp [intOf]; omega)
              · have hst2 : Hid (pl.remC wd l 0 (k + 1) b = pl.lF wd l) := Lib.hid (by
                  rw [← hin.out, ← cs_step (by omega) (by rw [← HN.out]; omega) hf.out hcC.out]
                  congr 1; unfold pl.upd; rw [if_neg (by omega)])
                go_wp2_with fail
                go_round
                case rel => exact ⟨_, b, by omega, by omega, by go_num, by first | rfl | go_num, by omega, by omega, hst2⟩
                case measure => first | (simp [intOf]; done) | (simp [intOf]; omega)
          · obtain ⟨F, hF⟩ : ∃ F, Hid (pl.lF wd (l.drop k) = F) := ⟨_, Lib.hid rfl⟩
            have hFb : 0 ≤ F ∧ F ≤ 129600 := by rw [← hF.out]; exact hlb.out k
            obtain ⟨m, hm⟩ : ∃ m : Int, Hid (wd - (J.size : Int) = m) := ⟨_, Lib.hid rfl⟩
            have hm2 := hm.out
            have hmb := pl.miss_bound (wd := wd) (a := (J.size : Int)) (by omega) (by omega) h2
            rw [hm2] at hmb
            have hsq : Hid (pl.sqL wd (pl.pc l 0 k) = m * m) := Lib.hid (by unfold pl.sqL; rw [← hJs.out, hm.out])
            have hcC : Hid (F + m * m = if k = l.length then 0 else pl.lF wd (l.drop k) + pl.sqL wd (pl.pc l 0 k)) := Lib.hid (by rw [if_neg (by rw [← HN.out]; exact hkn), hF.out, hsq.out])
            have hkn2 : (k : Int) < (n : Int) := by omega
            have hcn : cap0 ≠ k := by omega
            have hRB : Hid (LStrs w (.slice (some ⟨b1, o1 + k, none⟩) (n - k) (cap0 - k)) (l.drop k)) := Lib.hid (by
              have h3 := RStrs.sub (c := cap0 - k) HR.out HN.out (show k < n by omega) (Nat.le_refl n)
              have h4 : pl.pc l k n = l.drop k := by rw [HN.out]; exact pc_back
              rw [h4] at h3
              exact ⟨h3, _, cap0 - k, by rw [List.length_drop, ← HN.out], by rw [List.length_drop, ← HN.out]; omega⟩)
            go_wp2_with fail
            refine (joined_any (pl.pc l 0 k) ⟨#[32]⟩ _ _ hRS.out (by rw [pl.pc_len (by rw [← HN.out]; exact hkN)]; omega) (by rw [hJ.out]; omega)).mono ?_
            rintro e w' ⟨rfl, rfl⟩
            rw [hJ.out]
            go_wp2_with fail
            refine (IH.out (n - k) (by omega) (l.drop k) _ _ (by rw [List.length_drop, ← HN.out]) (by omega) hRB.out (pl.allFit_drop HA.out k) (fun x hx => H12.out x (List.mem_of_mem_drop hx))).mono ?_
            rintro e w' ⟨rfl, rfl⟩
            rw [hF.out]
            by_cases hb0 : b < 0
            · have hst2 : Hid (pl.remC wd l 0 (k + 1) (F + m * m) = pl.lF wd l) := Lib.hid (by
                rw [← hin.out, ← cs_step (by omega) (by rw [← HN.out]; omega) hf.out hcC.out]
                congr 1; unfold pl.upd; rw [if_pos (.inl hb0)])
              go_wp2_with fail
              go_round
              case rel => exact ⟨_, F + m * m, by omega, by omega, by go_num, by first | rfl | go_num, by omega, by omega, hst2⟩
              case measure => first | (simp [intOf]; done) | (simp [intOf]; omega)
            · by_cases hcb : F + m * m < b
              · have hst2 : Hid (pl.remC wd l 0 (k + 1) (F + m * m) = pl.lF wd l) := Lib.hid (by
                  rw [← hin.out, ← cs_step (by omega) (by rw [← HN.out]; omega) hf.out hcC.out]
                  congr 1; unfold pl.upd; rw [if_pos (.inr hcb)])
                go_wp2_with fail
                go_round
                case rel => exact ⟨_, F + m * m, by omega, by omega, by go_num, by first | rfl | go_num, by omega, by omega, hst2⟩
                case measure => first | (simp [intOf]; done) | (simp [intOf]; omega)
              · have hst2 : Hid (pl.remC wd l 0 (k + 1) b = pl.lF wd l) := Lib.hid (by
                  rw [← hin.out, ← cs_step (by omega) (by rw [← HN.out]; omega) hf.out hcC.out]
                  congr 1; unfold pl.upd; rw [if_neg (by omega)])
                go_wp2_with fail
                go_round
                case rel => exact ⟨_, b, by omega, by omega, by go_num, by first | rfl | go_num, by omega, by omega, hst2⟩
                case measure => first | (simp [intOf]; done) | (simp [intOf]; omega)
      · obtain rfl : k = n + 1 := by omega
        have hdn : Hid (b = pl.lF wd l) := Lib.hid (by rw [← hin.out, HN.out, pl.remC_end])
        have hbL : b = L0 := by rw [hdn.out, hL0.out]
        go_wp2_with fail
        go_ret
        exact ⟨by rw [hL0.out]; simp [Int.max_eq_left hl0.1], rfl⟩
end Go.Proofs.Ytfajllfedhifkaa
