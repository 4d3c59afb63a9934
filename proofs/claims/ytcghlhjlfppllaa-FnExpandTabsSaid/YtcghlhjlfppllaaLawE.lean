/- DrawExpandTabs, and the walk of FnExpandTabs. -/
import Derived.Test.YtcghlhjlfppllaaPlainE
import Derived.Test.YtcghlhjlfppllaaExpandI
import Derived.Test.YtcghlhjlfppllaaLawV
namespace Go.Proofs.Ytcghlhjlfppllaa
open Go.RowKit

set_option maxHeartbeats 2000000 in
theorem dExpandTabs_any (a : Option Addr) (len cap : Nat) (zs : List Int) (w : World) (hr : IsRow .u8 w a len cap zs) :
    Calls Try.prog 27 #[.slice a len cap] w fun e w' => ∃ (s : ByteArray) (x : Int), e = .returned (.tuple #[.string s, .int .i64 x]) ∧ s.size ≤ 200 ∧ 0 ≤ x ∧ x ≤ 100 ∧ Below w.heap.size w w' := by
  go_enter Try.func27, Try.ntmps27
  go_wp2_with fail
  refine (newReader_any a len cap zs _ hr).mono ?_
  rintro e w1 ⟨n, c, rfl, hR, hb1⟩
  have hsz := hb1.size
  go_wp2_with fail
  refine (one_lit 0 6 6 _ rfl (by omega) (by omega) ?_ _ _ n c 0 a _ hR (by omega)).mono ?_
  · simp [okInts]
  rintro e w2 ⟨x, rfl, hx0, hx6, p1, hp1, hR1, hg1⟩
  obtain ⟨x, rfl⟩ := Int.eq_ofNat_of_zero_le hx0
  have hb2 := Lib.hid (hb1.grown hg1 hsz (fun k hk => by cases hk; exact Nat.le_refl _))
  clear hg1 hb1 hR
  go_wp2_with fail
  go_loopw [5, 6] (fun sv nv wr => ∃ (j : Nat) (s : ByteArray) (p' : Nat), j ≤ 6 ∧ nv = .int .i64 j ∧ sv = .string s ∧ s.size ≤ 12 * (6 - j) ∧ p' ≤ 1 + 3 * (6 - j) ∧ Rdr w.heap.size w.heap.size n c p' a wr ∧ Below w.heap.size w wr) (fun _ nv _ => (intOf nv).toNat)
  case atStart => exact ⟨x, _, p1, by omega, rfl, rfl, Nat.zero_le _, by omega, hR1, hb2.out⟩
  case round =>
    obtain ⟨j, s, p', hj, rfl, rfl, hs, hp', hR, hbr⟩ := hrel
    by_cases h0 : 0 < j
    · have h0i : (0 : Int) < (j : Int) := by omega
      go_wp2_with fail
      refine (someWord_any _ _ n c p' a _ hR (by omega)).mono ?_
      rintro e w3 ⟨s2, rfl, hs2, p3, hp3, hR3, hg3⟩
      have hb3 := Lib.hid (hbr.grown hg3 hbr.size (fun k hk => by cases hk; exact Nat.le_refl _))
      go_wp2_with fail
      refine (someWord_any _ _ n c p3 a _ hR3 (by omega)).mono ?_
      rintro e w4 ⟨s3, rfl, hs3, p4, hp4, hR4, hg4⟩
      have hb4 := Lib.hid (hb3.out.grown hg4 hb3.out.size (fun k hk => by cases hk; exact Nat.le_refl _))
      go_wp2_with fail
      refine (of_lit 12 5 _ rfl (by omega) (by omega) ?_ _ _ n c p4 a _ hR4 (by omega)).mono ?_
      · simp [okStrs, ByteArray.size_mk', hs2, hs3]
      rintro e w5 ⟨s4, rfl, hs4, p5, hp5, hR5, hg5⟩
      have hb5 := Lib.hid (hb4.out.grown hg5 hb4.out.size (fun k hk => by cases hk; exact Nat.le_refl _))
      go_wp2_with fail
      go_roundw
      case rel => exact ⟨j - 1, _, p5, by omega, by go_num, rfl, by simp only [ByteArray.size_append]; omega, by omega, hR5, hb5.out⟩
      case measure => simp [intOf]; omega
    · obtain rfl : j = 0 := by omega
      go_wp2_with fail
      refine (pick_any 24 _ _ n c p' a _ hR (by omega) (by omega)).mono ?_
      rintro e w3 ⟨r, rfl, hr0, hr1, hR2, hg2⟩
      have hb3 := Lib.hid (hbr.grown hg2 hbr.size (fun k hk => by cases hk; exact Nat.le_refl _))
      by_cases hr0 : r = 0
      · subst hr0
        go_wp2_with fail
        refine (one_lit 0 13 8 _ rfl (by omega) (by omega) ?_ _ _ n c (p' + 1) a _ hR2 (by omega)).mono ?_
        · simp [okInts]
        rintro e w4 ⟨y, rfl, hy0, hy1, p4, hp4, hR4, hg4⟩
        go_wp2_with fail
        go_ret2
        exact ⟨_, y, rfl, by have h1 : (ByteArray.mk #[10]).size ≤ 1 := Nat.le_refl _; simp only [ByteArray.size_append]; omega, by omega, by omega, hb3.out.grown hg4 hb3.out.size (fun k hk => by cases hk; exact Nat.le_refl _)⟩
      · have hr' : (r == 0) = false := by simp [hr0]
        go_wp2_with fail
        refine (one_lit 0 13 8 _ rfl (by omega) (by omega) ?_ _ _ n c (p' + 1) a _ hR2 (by omega)).mono ?_
        · simp [okInts]
        rintro e w4 ⟨y, rfl, hy0, hy1, p4, hp4, hR4, hg4⟩
        go_wp2_with fail
        go_ret2
        exact ⟨s, y, rfl, by omega, by omega, by omega, hb3.out.grown hg4 hb3.out.size (fun k hk => by cases hk; exact Nat.le_refl _)⟩

set_option maxHeartbeats 2000000 in
theorem fnExpandTabs_walk (a : Option Addr) (len cap : Nat) (zs : List Int) (w : World) (hr : IsRow .u8 w a len cap zs) :
    Calls Try.prog 6 #[.slice a len cap] w fun e w' => e = .returned (.bool true) ∧ Below w.heap.size w w' := by
  have hlen := row_len hr
  by_cases hb : 1048576 < len
  · go_enter Try.func6, Try.ntmps6
    go_wp2
    go_ret
    exact ⟨rfl, Below.refl _ _⟩
  · go_enter Try.func6, Try.ntmps6
    go_wp2_with fail
    refine (dExpandTabs_any a len cap zs _ hr).mono ?_
    rintro e w1 ⟨s, x, rfl, hs, hx0, hx1, hb1⟩
    have hsm : s.size ≤ maxLen := by unfold maxLen; omega
    have hwf : (Lit.int .i64 x).wf = true := WalkArith.wf_i64 (by omega)
    go_wp2_with fail
    refine (iExpandTabs_any s x _ hsm hwf).mono ?_
    rintro e w2 ⟨rfl, hb2⟩
    have b2 := Lib.hid (hb1.trans (hb2.mono hb1.size))
    go_wp2_with fail
    refine (sExpandTabs_any s x _ hsm hwf).mono ?_
    rintro e w3 ⟨rfl, hb3⟩
    have b3 := Lib.hid (b2.out.trans (hb3.mono b2.out.size))
    clear hb1 hb2 hb3
    by_cases h0 : (pl.expB s x).size = 0
    · have h0' : (pl.expB s x).toList.isEmpty = true := pl.empty_of h0
      clear h0
      go_wp2_with fail
      refine (sExpandTabs_any s x _ hsm hwf).mono ?_
      rintro e w4 ⟨rfl, hb4⟩
      have b4 := Lib.hid (b3.out.trans (hb4.mono b3.out.size))
      go_wp2_with fail
      go_ret
      exact ⟨rfl, b4.out⟩
    · have h0' : (pl.expB s x).toList.isEmpty = false := pl.nonempty_of h0
      obtain ⟨wd, rfl, h1, h2, hv⟩ := pl.expB_cases h0
      have hsz := pl.tabT_size hv
      have hE := pl.expB_ok hv h1 h2
      have hel := pl.expTo_len h1 h2 s s.size (Nat.le_refl _)
      rw [pl.expTo_all] at hel
      have h9 : Hid (pl.hasC (pl.expB s wd) 9 = false) := Lib.hid (by rw [hE]; exact pl.expL_no9 _ _)
      have hwo : Hid (pl.bs (pl.without (pl.expB s wd).data.toList 32) = pl.bs (pl.without (pl.bs (pl.without s.data.toList 9)).data.toList 32)) := Lib.hid (by rw [hE, pl.bs_data, pl.bs_data, pl.expL_without])
      have hwz : (pl.bs (pl.without s.data.toList 9)).size ≤ 1000000 := by
        have h3 := List.length_filter_le (fun d => !(d == (9 : UInt8))) s.data.toList
        rw [pl.len_eq] at h3
        show (pl.without s.data.toList 9).length ≤ _
        unfold pl.without; omega
      have hEz : (pl.expB s wd).size ≤ 1440 := by rw [hE, pl.bs_size]; omega
      have hmz : (s ++ ⟨#[9]⟩).size ≤ maxLen := by
        have h3 : (ByteArray.mk #[9]).size ≤ 1 := Nat.le_refl _
        rw [ByteArray.size_append]; unfold maxLen; omega
      by_cases h120 : s.size = 120
      · have h120' : ((s.size : Int) == 120) = true := by simp [h120]
        clear hE h0 hel h120
        obtain ⟨E, HE⟩ : ∃ E, Hid (pl.expB s wd = E) := ⟨_, Lib.hid rfl⟩
        rw [HE.out] at h9 hwo hEz h0' ⊢
        have h9' := h9.out
        go_wp2_with fail
        refine (iExpandTabs_any _ wd _ hmz hwf).mono ?_
        rintro e w4 ⟨rfl, hb4⟩
        have b4 := Lib.hid (b3.out.trans (hb4.mono b3.out.size))
        go_wp2_with fail
        refine (hasByte_at E _ 9 rfl _ (by omega)).mono ?_
        rintro e w5 ⟨rfl, rfl⟩
        go_wp2_with fail
        refine (without_at s _ 9 rfl _ (by omega)).mono ?_
        rintro e w5 ⟨rfl, rfl⟩
        go_wp2_with fail
        refine (without_at _ _ 32 rfl _ hwz).mono ?_
        rintro e w5 ⟨rfl, rfl⟩
        rw [← hwo.out]
        go_wp2_with fail
        refine (without_at E _ 32 rfl _ (by omega)).mono ?_
        rintro e w5 ⟨rfl, rfl⟩
        go_wp2_with fail
        go_ret
        exact ⟨rfl, b4.out⟩
      · have h120' : ((s.size : Int) == 120) = false := by simp; omega
        have hlt : s.size < 120 := by omega
        have hM := pl.expB_ok (pl.tabT_snoc hv hlt) h1 h2
        rw [pl.snoc_data, pl.expL_tab] at hM
        have HM := Lib.hid hM
        have hmore := pl.more_of (pl.expL wd s.data.toList) h1 h2 (by omega)
        rw [← hM, ← hE] at hmore
        clear hM hE h0 hel h120
        obtain ⟨E, HE⟩ : ∃ E, Hid (pl.expB s wd = E) := ⟨_, Lib.hid rfl⟩
        obtain ⟨M, HMM⟩ : ∃ M, Hid (pl.expB (s ++ ⟨#[9]⟩) wd = M) := ⟨_, Lib.hid rfl⟩
        rw [HE.out] at h9 hwo hEz h0' hmore ⊢
        rw [HMM.out] at hmore
        have h9' := h9.out
        obtain ⟨m1, m2, m3, m4⟩ := hmore
        go_wp2_with fail
        refine (iExpandTabs_any _ wd _ hmz hwf).mono ?_
        rintro e w4 ⟨rfl, hb4⟩
        rw [HMM.out]
        have b4 := Lib.hid (b3.out.trans (hb4.mono b3.out.size))
        go_wp2_with fail
        refine (hasByte_at E _ 9 rfl _ (by omega)).mono ?_
        rintro e w5 ⟨rfl, rfl⟩
        go_wp2_with fail
        refine (without_at s _ 9 rfl _ (by omega)).mono ?_
        rintro e w5 ⟨rfl, rfl⟩
        go_wp2_with fail
        refine (without_at _ _ 32 rfl _ hwz).mono ?_
        rintro e w5 ⟨rfl, rfl⟩
        rw [← hwo.out]
        go_wp2_with fail
        refine (without_at E _ 32 rfl _ (by omega)).mono ?_
        rintro e w5 ⟨rfl, rfl⟩
        go_wp2_with fail
        go_ret
        exact ⟨rfl, b4.out⟩
end Go.Proofs.Ytcghlhjlfppllaa
