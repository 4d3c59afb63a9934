/- The walk of FnWaysOf. -/
import Derived.Test.YtfajllfedhifkaaDrawW
import Derived.Test.YtfajllfedhifkaaWaysA
import Derived.Test.YtfajllfedhifkaaJoin
import Derived.Test.YtfajllfedhifkaaPlainD
namespace Go.Proofs.Ytfajllfedhifkaa
open Go.RowKit
set_option maxRecDepth 100000

set_option maxHeartbeats 4000000 in
theorem fnWaysOf_walk (a : Option Addr) (len cap : Nat) (zs : List Int) (w : World) (hr : IsRow .u8 w a len cap zs) :
    Calls Try.prog 7 #[.slice a len cap] w fun e w' => e = .returned (.bool true) ∧ Below w.heap.size w w' := by
  have hlen := row_len hr
  by_cases hb : 1048576 < len
  · go_enter Try.func7, Try.ntmps7
    go_wp2
    go_ret
    exact ⟨rfl, Below.refl _ _⟩
  · go_enter Try.func7, Try.ntmps7
    go_wp2_with fail
    refine (dWaysOf_any a len cap zs _ hr).mono ?_
    rintro e w1 ⟨v, l, x, rfl, ho, hl, hf, hx0, hx1, hb1⟩
    have HLN : Hid (l.length ≤ maxLen) := Lib.hid (by unfold maxLen; omega)
    have HSZ : Hid (∀ i, i < l.length → (nth l i).size ≤ maxLen) := Lib.hid (fun i hi => by have := hf i hi; unfold maxLen; omega)
    obtain ⟨N, hN⟩ : ∃ N, N = l.length := ⟨_, rfl⟩
    have hN10 : N ≤ 10 := by omega
    have HN := Lib.hid hN
    obtain ⟨a6, c6, rfl⟩ : ∃ a6 c6, v = .slice a6 N c6 := by
      obtain ⟨a6, c6, h6⟩ := ho.reads.slice
      rw [← hN] at h6; exact ⟨a6, c6, h6⟩
    have HO1 := Lib.hid ho
    have HB1 := Lib.hid hb1
    clear ho hb1 hf hN hl
    go_wp2_with fail
    refine (iWaysOf_any l x _ _ HO1.out.lreads HLN.out HSZ.out).mono ?_
    rintro e w2 ⟨rfl, hb2⟩
    have HO2 := Lib.hid (HO1.out.below (Nat.le_refl _) hb2)
    have HB2 := Lib.hid (HB1.out.trans (hb2.mono HB1.out.size))
    clear hb2
    by_cases hok : (pl.vWords l && pl.inR x 1 120) = true
    · rw [Bool.and_eq_true] at hok
      have HV := Lib.hid hok.1
      have HI := Lib.hid hok.2
      clear hok
      have hx := pl.inR_parts HI.out
      have hN9 : N ≤ 9 := by rw [HN.out]; exact (pl.vWords_parts HV.out).1
      obtain ⟨F, HF⟩ : ∃ F, Hid (pl.wF x l = F) := ⟨_, Lib.hid rfl⟩
      have hres : Hid (pl.waysR l x = (F : Int)) := Lib.hid (by rw [pl.waysR_yes HV.out HI.out, HF.out])
      obtain ⟨M, HM⟩ : ∃ M, Hid (2 ^ (N - 1) = M) := ⟨_, Lib.hid rfl⟩
      have hFM : F ≤ M := by rw [← HF.out, ← HM.out, HN.out]; exact pl.wF_most _ _
      have hM : M ≤ 256 := by rw [← HM.out]; exact pow_256 N (by omega)
      have hfit : Hid (pl.fitA l x = decide (0 < F)) := Lib.hid (by rw [pl.wF_fit HV.out HI.out, HF.out])
      obtain ⟨J, HJ⟩ : ∃ J, Hid (pl.jline l = J) := ⟨_, Lib.hid rfl⟩
      have hjn : Hid (pl.joinB l ⟨#[32]⟩ = J) := Lib.hid (by rw [← HJ.out]; rfl)
      have hjz : Hid (J.size = pl.szJ l) := Lib.hid (by rw [← HJ.out, pl.jline_size])
      have hjb : J.size ≤ 117 := by
        rw [hjz.out]
        have := pl.szJ_bound l (pl.words_12 HV.out)
        have := HN.out; omega
      have hall : Hid ((J.size : Int) ≤ x → F = M) := Lib.hid (fun h => by rw [← HF.out, ← HM.out, HN.out]; exact pl.wF_all (by rw [← hjz.out]; exact h))
      rw [hres.out]
      go_wp2_with fail
      refine (sWaysOf_any l x _ _ HO2.out.lreads HLN.out HSZ.out).mono ?_
      rintro e w3 ⟨rfl, hb3⟩
      have HO3 := Lib.hid (HO2.out.below (Nat.le_refl _) hb3)
      have HB3 := Lib.hid (HB2.out.trans (hb3.mono HB2.out.size))
      clear hb3
      rw [hres.out]
      go_wp2_with fail
      go_loop [6, 7] (fun mv iv => ∃ k m : Nat, (k ≤ N ∨ k = 1) ∧ 1 ≤ k ∧ iv = .int .i64 k ∧ mv = .int .i64 m ∧ Hid (m = 2 ^ (k - 1)) ∧ m ≤ 256) (fun _ iv => N + 1 - (intOf iv).toNat)
      case atStart => exact ⟨1, 1, .inr rfl, Nat.le_refl _, rfl, rfl, Lib.hid rfl, by omega⟩
      case round =>
        obtain ⟨k, m, hk, hk1, rfl, rfl, hm, hmb⟩ := hrel
        by_cases hlt : k < N
        · have hm2 : Hid (2 * m = 2 ^ (k + 1 - 1)) := Lib.hid (by
            rw [hm.out]
            obtain ⟨j, rfl⟩ : ∃ j, k = j + 1 := ⟨k - 1, by omega⟩
            rw [show j + 1 - 1 = j from rfl, show j + 1 + 1 - 1 = j + 1 from rfl, Nat.pow_succ]; omega)
          have hm2b : 2 * m ≤ 256 := by
            rw [hm2.out]
            exact pow_256 (k + 1) (by omega)
          go_wp2
          go_round
          case rel => exact ⟨k + 1, 2 * m, by omega, by omega, by go_num, by first | rfl | go_num, hm2, hm2b⟩
          case measure => simp [intOf]; omega
        · have hmM : m = M := by
            rw [hm.out, ← HM.out]
            rcases hk with h | h
            · rw [show k = N by omega]
            · subst h
              rw [show N - 1 = 1 - 1 by omega]
          subst hmM
          go_wp2_with fail
          refine (iWrapWords_any l x _ _ HO3.out.lreads HLN.out HSZ.out).mono ?_
          rintro e w4 ⟨v4, rfl, ho4, hb4⟩
          rw [hfit.out]
          have HO4 := Lib.hid (HO3.out.below (Nat.le_refl _) hb4)
          have HB4 := Lib.hid (HB3.out.trans (hb4.mono HB3.out.size))
          clear ho4 hb4
          by_cases hF0 : 0 < F
          · rw [decide_eq_true hF0]
            go_wp2_with fail
            refine (joined_any l ⟨#[32]⟩ _ _ HO4.out.reads (by rw [← HN.out]; omega) (by rw [hjn.out]; omega)).mono ?_
            rintro e w' ⟨rfl, rfl⟩
            rw [hjn.out]
            by_cases hJx : (J.size : Int) ≤ x
            · obtain rfl := hall.out hJx
              go_wp2_with fail
              go_ret
              exact ⟨by first | rfl | simp, HB4.out⟩
            · go_wp2_with fail
              go_ret
              exact ⟨by first | rfl | simp, HB4.out⟩
          · rw [decide_eq_false hF0]
            obtain rfl : F = 0 := by omega
            go_wp2_with fail
            refine (joined_any l ⟨#[32]⟩ _ _ HO4.out.reads (by rw [← HN.out]; omega) (by rw [hjn.out]; omega)).mono ?_
            rintro e w' ⟨rfl, rfl⟩
            rw [hjn.out]
            by_cases hJx : (J.size : Int) ≤ x
            · obtain rfl := hall.out hJx
              go_wp2_with fail
              go_ret
              exact ⟨by first | rfl | simp, HB4.out⟩
            · go_wp2_with fail
              go_ret
              exact ⟨by first | rfl | simp, HB4.out⟩
    · have hres : Hid (pl.waysR l x = -1) := Lib.hid (pl.waysR_no (by
        cases h1 : pl.vWords l with
        | false => exact .inl rfl
        | true =>
          refine .inr ?_
          cases h2 : pl.inR x 1 120 with
          | false => rfl
          | true => rw [h1, h2] at hok; exact absurd rfl hok))
      clear hok
      rw [hres.out]
      go_wp2_with fail
      refine (sWaysOf_any l x _ _ HO2.out.lreads HLN.out HSZ.out).mono ?_
      rintro e w3 ⟨rfl, hb3⟩
      have HO3 := Lib.hid (HO2.out.below (Nat.le_refl _) hb3)
      have HB3 := Lib.hid (HB2.out.trans (hb3.mono HB2.out.size))
      clear hb3
      rw [hres.out]
      go_wp2_with fail
      refine (sWaysOf_any l x _ _ HO3.out.lreads HLN.out HSZ.out).mono ?_
      rintro e w4 ⟨rfl, hb4⟩
      have HB4 := Lib.hid (HB3.out.trans (hb4.mono HB3.out.size))
      clear hb4
      rw [hres.out]
      go_wp2_with fail
      go_ret
      exact ⟨by first | rfl | simp, HB4.out⟩
end Go.Proofs.Ytfajllfedhifkaa
