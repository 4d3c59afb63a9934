/- The walk of FnWordsOf. -/
import Derived.Test.YtcghlhjlfppllaaLawF
import Derived.Test.YtcghlhjlfppllaaJoin
namespace Go.Proofs.Ytcghlhjlfppllaa.pl
theorem words_nth {s : ByteArray} {k : Nat} (hk : k < (wordsOf s).length) : (nth (wordsOf s) k).size ≠ 0 ∧ hasC (nth (wordsOf s) k) 32 = false ∧ (nth (wordsOf s) k).size ≤ 120 := by
  by_cases hv : validT s.data.toList = true
  · rw [wordsOf_ok hv] at hk ⊢
    unfold wordsB at hk ⊢
    rw [nth_eq hk, List.getElem_map]
    rw [List.length_map] at hk
    have hg := wordsL_good s.data.toList _ (List.getElem_mem hk)
    refine ⟨?_, ?_, ?_⟩
    · rw [bs_size]; intro e; exact hg.1 (List.length_eq_zero_iff.1 e)
    · unfold hasC; rw [bs_data]; exact decide_eq_false (fun hm => hg.2 32 hm rfl)
    · rw [bs_size]
      have h1 := spl_len1 s.data.toList [] _ (List.getElem_mem hk)
      have h2 := validT_size hv
      rw [len_eq] at h1
      simp only [List.length_nil] at h1
      omega
  · rw [wordsOf_no (by simpa using hv)] at hk; simp at hk
theorem flat_size {s : ByteArray} (h : validT s.data.toList = true) : (joinB (wordsOf s) (bs [])).size ≤ 120 := by
  rw [← words_without h, bs_size]
  have h1 := List.length_filter_le (fun d => !(d == (32 : UInt8))) s.data.toList
  have h2 := validT_size h
  rw [len_eq] at h1
  unfold without; omega
end Go.Proofs.Ytcghlhjlfppllaa.pl
namespace Go.Proofs.Ytcghlhjlfppllaa
open Go.RowKit

set_option maxHeartbeats 2000000 in
theorem fnWordsOf_walk (a : Option Addr) (len cap : Nat) (zs : List Int) (w : World) (hr : IsRow .u8 w a len cap zs) :
    Calls Try.prog 4 #[.slice a len cap] w fun e w' => e = .returned (.bool true) ∧ Below w.heap.size w w' := by
  have hlen := row_len hr
  by_cases hb : 1048576 < len
  · go_enter Try.func4, Try.ntmps4
    go_wp2
    go_ret
    exact ⟨rfl, Below.refl _ _⟩
  · go_enter Try.func4, Try.ntmps4
    go_wp2_with fail
    refine (dWordsOf_any a len cap zs _ hr).mono ?_
    rintro e w1 ⟨s, rfl, hs, hb1⟩
    have hsm : s.size ≤ maxLen := by unfold maxLen; omega
    have hwl := pl.wordsOf_len s
    go_wp2_with fail
    refine (iWordsOf_any s _ hsm).mono ?_
    rintro e w2 ⟨v, rfl, hv1, hb2⟩
    have b2 := Lib.hid (hb1.trans (hb2.mono hb1.size))
    go_wp2_with fail
    refine (sWordsOf_any s _ hsm).mono ?_
    rintro e w3 ⟨u, rfl, hu, hb3⟩
    have b3 := Lib.hid (b2.out.trans (hb3.mono b2.out.size))
    have hv3 := OStrs.below hv1 (Nat.le_refl _) hb3
    go_wp2_with fail
    refine (equalTexts_same _ _ _ _ hv3.reads hu.reads (by omega)).mono ?_
    rintro e w4 ⟨rfl, hb4⟩
    have b4 := Lib.hid (b3.out.trans (hb4.mono b3.out.size))
    have hv4 := OStrs.below hv3 (Nat.le_refl _) hb4
    go_wp2_with fail
    refine (iValidText_any s _ hsm).mono ?_
    rintro e w5 ⟨rfl, hb5⟩
    have b5 := Lib.hid (b4.out.trans (hb5.mono b4.out.size))
    have hv5 := OStrs.below hv4 (Nat.le_refl _) hb5
    clear hb1 hb2 hb3 hb4 hb5 hv1 hv3 hv4 hu
    by_cases hv : pl.validT s.data.toList = true
    · have hrd := Lib.hid hv5.reads
      have hnth := Lib.hid (fun k (hk : k < (pl.wordsOf s).length) => pl.words_nth hk)
      have hflat := Lib.hid (pl.words_without hv)
      have hflz := pl.flat_size hv
      have hfz := pl.foldB_size120 s
      have hfw := Lib.hid (pl.fold_words hv)
      obtain ⟨L, hL⟩ : ∃ L, Hid (pl.wordsOf s = L) := ⟨_, Lib.hid rfl⟩
      have hfo := Lib.hid (show pl.joinB L ⟨#[32]⟩ = pl.foldB s by rw [← hL.out]; rfl)
      rw [hL.out] at hwl hv5 hrd hnth hflat hflz hfw
      have hflat' := Lib.hid (show pl.bs (pl.without s.data.toList 32) = pl.joinB L ⟨#[]⟩ from hflat.out)
      have hflz' : (pl.joinB L ⟨#[]⟩).size ≤ 1000000000000 := Nat.le_trans (show _ ≤ 120 from hflz) (by omega)
      have hsp' : (pl.joinB L ⟨#[32]⟩).size ≤ 1000000000000 := by rw [hfo.out]; omega
      have hfm : (pl.foldB s).size ≤ maxLen := by unfold maxLen; omega
      have tail : ∀ (Q : Ending → World → Prop), True := fun _ => trivial
      clear tail hflat hflz
      rcases hrd.out with ⟨hz, a2, cap2, hvv⟩ | ⟨hpos, b1, o1, c1, hvv, hblt, hc1⟩
      · rw [hvv] at hv5 hrd ⊢
        have HZ := Lib.hid hz
        clear hz hvv
        go_wp2_with fail
        refine wp_loop_rounds 1 ?_
        rw [rounds_succ]
        go_wp2_with fail
        refine (joined_any L ⟨#[32]⟩ _ _ hrd.out (by omega) hsp').mono ?_
        rintro e w6 ⟨rfl, rfl⟩
        rw [hfo.out]
        go_wp2_with fail
        refine (iWordsOf_any (pl.foldB s) _ hfm).mono ?_
        rintro e w7 ⟨v7, rfl, hv7, hb7⟩
        rw [hfw.out] at hv7
        have b7 := Lib.hid (b5.out.trans (hb7.mono b5.out.size))
        have hrd7 := Lib.hid (RStrs.below hrd.out (Nat.le_refl _) hb7)
        go_wp2_with fail
        refine (equalTexts_same L _ _ _ hv7.reads hrd7.out (by omega)).mono ?_
        rintro e w8 ⟨rfl, hb8⟩
        have b8 := Lib.hid (b7.out.trans (hb8.mono b7.out.size))
        have hrd8 := Lib.hid (RStrs.below hrd7.out (Nat.le_refl _) hb8)
        go_wp2_with fail
        refine (without_at s _ 32 rfl _ (by omega)).mono ?_
        rintro e w9 ⟨rfl, rfl⟩
        rw [hflat'.out]
        go_wp2_with fail
        refine (joined_any L ⟨#[]⟩ _ _ hrd8.out (by omega) hflz').mono ?_
        rintro e w9 ⟨rfl, rfl⟩
        go_wp2_with fail
        go_ret
        exact ⟨rfl, b8.out⟩
      · rw [hvv] at hv5 hrd ⊢
        have HC := Lib.hid hc1
        obtain ⟨n, hn⟩ : ∃ n, n = L.length := ⟨_, rfl⟩
        have HN := Lib.hid hn
        have hrn : n ≤ 120 := by omega
        have hrd2 := hrd
        rw [← hn] at hpos hv5 hrd ⊢
        clear hvv hc1 hn
        go_wp2_with fail
        go_loop [5] (fun i => ∃ k : Nat, k ≤ n ∧ i = .int .i64 k) (fun i => n - (intOf i).toNat)
        case atStart => exact ⟨0, Nat.zero_le _, rfl⟩
        case round =>
          obtain ⟨k, hk, rfl⟩ := hrel
          by_cases hlt : k < n
          · have hkL : Hid (k < L.length) := by rw [← HN.out]; exact Lib.hid hlt
            have hx := HC.out k hkL.out
            obtain ⟨q1, q2, q3⟩ := hnth.out k hkL.out
            obtain ⟨x, HX⟩ : ∃ x, Hid (nth L k = x) := ⟨_, Lib.hid rfl⟩
            rw [HX.out] at hx q1 q2 q3
            have q0 : x.toList.isEmpty = false := pl.nonempty_of q1
            clear q1
            go_wp2_with fail
            refine (hasByte_at x _ 32 rfl _ (by omega)).mono ?_
            rintro e w6 ⟨rfl, rfl⟩
            go_wp2_with fail
            go_round
            case rel => exact ⟨k + 1, by omega, by go_num⟩
            case measure => simp [intOf]; omega
          · obtain rfl : k = n := by omega
            go_wp2_with fail
            refine (joined_any L ⟨#[32]⟩ _ _ hrd.out (by omega) hsp').mono ?_
            rintro e w6 ⟨rfl, rfl⟩
            rw [hfo.out]
            go_wp2_with fail
            refine (iWordsOf_any (pl.foldB s) _ hfm).mono ?_
            rintro e w7 ⟨v7, rfl, hv7, hb7⟩
            rw [hfw.out] at hv7
            have b7 := Lib.hid (b5.out.trans (hb7.mono b5.out.size))
            have hrd7 := Lib.hid (RStrs.below hrd.out (Nat.le_refl _) hb7)
            go_wp2_with fail
            refine (equalTexts_same L _ _ _ hv7.reads hrd7.out (by omega)).mono ?_
            rintro e w8 ⟨rfl, hb8⟩
            have b8 := Lib.hid (b7.out.trans (hb8.mono b7.out.size))
            have hrd8 := Lib.hid (RStrs.below hrd7.out (Nat.le_refl _) hb8)
            go_wp2_with fail
            refine (without_at s _ 32 rfl _ (by omega)).mono ?_
            rintro e w9 ⟨rfl, rfl⟩
            rw [hflat'.out]
            go_wp2_with fail
            refine (joined_any L ⟨#[]⟩ _ _ hrd8.out (by omega) hflz').mono ?_
            rintro e w9 ⟨rfl, rfl⟩
            go_wp2_with fail
            go_ret
            exact ⟨rfl, b8.out⟩
    · have hv' : pl.validT s.data.toList = false := by simpa using hv
      clear hv
      go_wp2_with fail
      refine (sWordsOf_any s _ hsm).mono ?_
      rintro e w6 ⟨u6, rfl, hu6, hb6⟩
      have b6 := Lib.hid (b5.out.trans (hb6.mono b5.out.size))
      have hv6 := OStrs.below hv5 (Nat.le_refl _) hb6
      go_wp2_with fail
      refine (equalTexts_same _ _ _ _ hv6.reads hu6.reads (by omega)).mono ?_
      rintro e w7 ⟨rfl, hb7⟩
      have b7 := Lib.hid (b6.out.trans (hb7.mono b6.out.size))
      go_wp2_with fail
      go_ret
      exact ⟨rfl, b7.out⟩
end Go.Proofs.Ytcghlhjlfppllaa
