/- Contracts: someForm, DrawValidForm. -/
import Derived.Test.YtadlelcckalcoaaDoorDraw2
namespace Go.Proofs.YtadlelcckalcoaaDoor
open Go.RowKit
set_option maxRecDepth 100000

set_option maxHeartbeats 2000000 in
theorem someForm_any (B g n c p : Nat) (ao : Option Addr) (w : World) (h : Rdr B g n c p ao w) (hp : p ≤ 900000) :
    Calls Tryd.prog 30 #[.pointer (some ⟨g, 0, none⟩)] w (GotStr 54 (p + 9) B g n c ao w) := by
  go_enter Tryd.func30, Tryd.ntmps30
  go_wp2_with fail
  refine (one_lit 0 6 6 _ rfl (by omega) (by omega) ?_ B g n c p ao _ h (by omega)).mono ?_
  · simp [okInts]
  rintro e w1 ⟨x, rfl, hx0, hx8, p1, hp1, hR1, hg1⟩
  obtain ⟨x, rfl⟩ := Int.eq_ofNat_of_zero_le hx0
  go_wp2_with fail
  go_loopw [3, 4] (fun sv nv wr => ∃ (j : Nat) (s : ByteArray) (p' : Nat), j ≤ 6 ∧ nv = .int .i64 j ∧ sv = .string s ∧ s.size ≤ 6 * (6 - j) ∧ p' ≤ p + 1 + (6 - j) ∧ Rdr B g n c p' ao wr ∧ w.grownBy wr (some g)) (fun _ nv _ => (intOf nv).toNat)
  case atStart => exact ⟨x, _, p1, by omega, rfl, rfl, Nat.zero_le _, by omega, hR1, hg1⟩
  case round =>
    obtain ⟨j, s, p', hj, rfl, rfl, hs, hp', hR, hgr⟩ := hrel
    by_cases h0 : 0 < j
    · have h0i : (0 : Int) < (j : Int) := by omega
      go_wp2_with fail
      refine (of_lit 6 10 _ rfl (by omega) (by omega) ?_ B g n c p' ao _ hR (by omega)).mono ?_
      · simp [okStrs, ByteArray.size_mk']
      rintro e w2 ⟨s1, rfl, hs1, p2, hp2, hR2, hg2⟩
      go_wp2_with fail
      go_roundw
      case rel => exact ⟨j - 1, _, p2, by omega, by go_num, rfl, by simp only [ByteArray.size_append]; omega, by omega, hR2, grown_tr hgr hg2⟩
      case measure => simp [intOf]; omega
    · obtain rfl : j = 0 := by omega
      go_wp2_with fail
      refine (pick_any 12 B g n c p' ao _ hR (by omega) (by omega)).mono ?_
      rintro e w2 ⟨r, rfl, hr0, hr1, hR2, hg2⟩
      by_cases hr : r = 0
      · subst hr
        go_wp2_with fail
        refine (of_lit 18 6 _ rfl (by omega) (by omega) ?_ B g n c (p' + 1) ao _ hR2 (by omega)).mono ?_
        · simp [okStrs, ByteArray.size_mk']
        rintro e w3 ⟨s1, rfl, hs1, p3, hp3, hR3, hg3⟩
        go_wp2_with fail
        go_ret
        exact ⟨_, rfl, by simp only [ByteArray.size_append]; omega, p3, by omega, hR3, grown_tr hgr (grown_tr hg2 hg3)⟩
      · have hr' : (r == 0) = false := by simp [hr]
        go_wp2_with fail
        go_ret
        exact ⟨s, rfl, by omega, p' + 1, by omega, hR2, grown_tr hgr hg2⟩

theorem dValidForm_any (a : Option Addr) (len cap : Nat) (zs : List Int) (w : World) (hr : IsRow .u8 w a len cap zs) :
    Calls Tryd.prog 11 #[.slice a len cap] w fun e w' => ∃ s, e = .returned (.string s) ∧ s.size ≤ 54 ∧ Below w.heap.size w w' := by
  go_enter Tryd.func11, Tryd.ntmps11
  go_wp2_with fail
  refine (newReader_any a len cap zs _ hr).mono ?_
  rintro e w1 ⟨n, c, rfl, hR, hb1⟩
  go_wp2_with fail
  refine (someForm_any _ _ n c 0 a _ hR (by omega)).mono ?_
  rintro e w2 ⟨s, rfl, hs, p', _, _, hg⟩
  go_wp2_with fail
  go_ret
  exact ⟨s, rfl, hs, hb1.grown hg hb1.size (fun k hk => by cases hk; exact Nat.le_refl _)⟩
end Go.Proofs.YtadlelcckalcoaaDoor
