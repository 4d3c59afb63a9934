/- Contract: someForm. -/
import Derived.Test.YtadlelcckalcoaaDraw2
namespace Go.Proofs.Ytadlelcckalcoaa
open Go.RowKit
set_option maxRecDepth 100000

set_option maxHeartbeats 2000000 in
theorem someForm_any (B g n c p : Nat) (ao : Option Addr) (w : World) (h : Rdr B g n c p ao w) (hp : p ≤ 900000) :
    Calls Try.prog 56 #[.pointer (some ⟨g, 0, none⟩)] w (GotStr 54 (p + 9) B g n c ao w) := by
  go_enter Try.func56, Try.ntmps56
  go_wp2_with fail
  refine (one_lit 0 6 6 _ rfl (by omega) (by omega) ?_ B g n c p ao _ h (by omega)).mono ?_
  · simp [okInts]
  rintro e w1 ⟨x, rfl, hx0, hx8, p1, hp1, hR1, hg1⟩
  obtain ⟨x, rfl⟩ := Int.eq_ofNat_of_zero_le hx0
  go_wp2_with fail
  go_loopw [3, 4] (fun sv nv wr => ∃ (j : Nat) (s : ByteArray) (p' : Nat), j ≤ 6 ∧ nv = .int .i64 j ∧ sv = .string s ∧ s.size ≤ 6 * (6 - j) ∧ p' ≤ p + 1 + (6 - j) ∧ Rdr B g n c p' ao wr ∧ w.grownBy wr (some g)) (fun _ nv _ => (intOf nv).toNat)
  case atStart => exact ⟨x, _, p1, by omega, rfl, rfl, Nat.zero_le _, by omega, hR1, hg1⟩
  case round =>
    obtain ⟨j, s, p', hj, rfl, rfl, hs, hp', hR, hgr⟩ := hrel
    by_cases h0 : 0 < j
    · have h0i : (0 : Int) < (j : Int) := by omega
      go_wp2_with fail
      refine (of_lit 6 10 _ rfl (by omega) (by omega) ?_ B g n c p' ao _ hR (by omega)).mono ?_
      · simp [okStrs, ByteArray.size_mk']
      rintro e w2 ⟨s1, rfl, hs1, p2, hp2, hR2, hg2⟩
      go_wp2_with fail
      go_roundw
      case rel => exact ⟨j - 1, _, p2, by omega, by go_num, rfl, by simp only [ByteArray.size_append]; omega, by omega, hR2, grown_tr hgr hg2⟩
      case measure => simp [intOf]; omega
    · obtain rfl : j = 0 := by omega
      go_wp2_with fail
      refine (pick_any 12 B g n c p' ao _ hR (by omega) (by omega)).mono ?_
      rintro e w2 ⟨r, rfl, hr0, hr1, hR2, hg2⟩
      by_cases hr : r = 0
      · subst hr
        go_wp2_with fail
        refine (of_lit 18 6 _ rfl (by omega) (by omega) ?_ B g n c (p' + 1) ao _ hR2 (by omega)).mono ?_
        · simp [okStrs, ByteArray.size_mk']
        rintro e w3 ⟨s1, rfl, hs1, p3, hp3, hR3, hg3⟩
        go_wp2_with fail
        go_ret
        exact ⟨_, rfl, by simp only [ByteArray.size_append]; omega, p3, by omega, hR3, grown_tr hgr (grown_tr hg2 hg3)⟩
      · have hr' : (r == 0) = false := by simp [hr]
        go_wp2_with fail
        go_ret
        exact ⟨s, rfl, by omega, p' + 1, by omega, hR2, grown_tr hgr hg2⟩
end Go.Proofs.Ytadlelcckalcoaa
