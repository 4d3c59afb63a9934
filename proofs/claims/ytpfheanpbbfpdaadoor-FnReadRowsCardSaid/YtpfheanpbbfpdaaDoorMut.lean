/- Contract: mutate. -/
import Derived.Test.YtpfheanpbbfpdaaDoorDraw2
import Derived.Deep.RegionWith
namespace Go.Proofs.YtpfheanpbbfpdaaDoor
open Go.RowKit
set_option maxRecDepth 100000
set_option linter.unusedVariables false

theorem Rdr.drew1 {B g n c p : Nat} {ao : Option Addr} {w : World} (h : Rdr B g n c p ao w) : Rdr B g n c p ao w.drew := h.drewN (k := 1)
theorem grown_drew1 {row : Option Nat} {a b : World} (h : a.grownBy b row) : a.grownBy b.drew row := grown_drewN h 1

theorem ok_mut7 : okStrs 1 #[.string ⟨#[97]⟩, .string ⟨#[32]⟩, .string ⟨#[123]⟩, .string ⟨#[125]⟩, .string ⟨#[44]⟩, .string ⟨#[124]⟩, .string ⟨#[34]⟩] := by simp [okStrs, ByteArray.size_mk']
theorem ok_mut5 : okStrs 1 #[.string ⟨#[32]⟩, .string ⟨#[97]⟩, .string ⟨#[125]⟩, .string ⟨#[44]⟩, .string ⟨#[9]⟩] := by simp [okStrs, ByteArray.size_mk']

set_option maxHeartbeats 4000000 in
theorem mutate_any (M : Nat) (s : ByteArray) (hs : s.size ≤ M) (hM : M ≤ 100000) (B g n c p : Nat) (ao : Option Addr) (w : World) (h : Rdr B g n c p ao w) (hp : p ≤ 900000) :
    Calls Tryd.prog 52 #[.pointer (some ⟨g, 0, none⟩), .string s] w (GotStr (M + 1) (p + 3) B g n c ao w) := by
  go_enter Tryd.func52, Tryd.ntmps52
  go_wp2_with fail
  refine (pick_any _ B g n c p ao _ h (by omega) (by omega)).mono ?_
  rintro e w1 ⟨k, rfl, hk0, hk1, hR1, hg1⟩
  have hk2 := hk1 (by omega)
  obtain ⟨k, rfl⟩ := Int.eq_ofNat_of_zero_le hk0
  have HG1 := Lib.hid hg1
  clear hk1 hg1
  go_wp2_with fail
  refine (pick_any 5 B g n c (p + 1) ao _ hR1 (by omega) (by omega)).mono ?_
  rintro e w2 ⟨r, rfl, hr0, hr1, hR2, hg2⟩
  have hr2 := hr1 (by omega)
  have HG2 := Lib.hid (grown_tr HG1.out hg2)
  have hw1 : IntKind.i64.wrap ((k : Int) + 1) = (k : Int) + 1 := by rw [IntKind.wrap_i64]; omega
  have hk00 : (0 : Int) ≤ (k : Int) + 1 := by omega
  clear hr1 hg2 hR1
  rcases (show r = 0 ∨ r = 1 ∨ r = 2 ∨ r = 3 ∨ r = 4 by omega) with rfl | rfl | rfl | rfl | rfl
  · by_cases hlt : k < s.size
    · have hlti : (k : Int) < (s.size : Int) := by omega
      have hlei : (k : Int) + 1 ≤ (s.size : Int) := by omega
      go_wp2_with fail
      go_region_with (go_at_call 49; refine (of_lit 1 7 _ rfl (by omega) (by omega) ok_mut7 B g n c (p + 2) ao w2.drew hR2.drew1 (by omega)).mono ?_; rintro e w3 ⟨x, rfl, hx, p3, hp3, hR3, hg3⟩)
      all_goals first
        | (exfalso; omega)
        | (go_wp2_with fail
           go_ret
           exact ⟨_, rfl, by simp only [ByteArray.size_append, ByteArray.size_extract]; omega, p3, by omega, hR3, grown_tr (grown_drew1 HG2.out) hg3⟩)
    · have hlti : ¬ (k : Int) < (s.size : Int) := by omega
      go_wp2_with fail
      go_ret
      exact ⟨s, rfl, by omega, _, by omega, hR2, HG2.out⟩
  · by_cases hlt : k < s.size
    · have hlti : (k : Int) < (s.size : Int) := by omega
      have hlei : (k : Int) + 1 ≤ (s.size : Int) := by omega
      go_wp2_with fail
      go_region_with (go_at_call 49; refine (of_lit 1 7 _ rfl (by omega) (by omega) ok_mut7 B g n c (p + 2) ao w2.drew hR2.drew1 (by omega)).mono ?_; rintro e w3 ⟨x, rfl, hx, p3, hp3, hR3, hg3⟩)
      all_goals first
        | (exfalso; omega)
        | (go_wp2_with fail
           go_ret
           exact ⟨_, rfl, by simp only [ByteArray.size_append, ByteArray.size_extract]; omega, p3, by omega, hR3, grown_tr (grown_drew1 HG2.out) hg3⟩)
    · have hlti : ¬ (k : Int) < (s.size : Int) := by omega
      go_wp2_with fail
      go_ret
      exact ⟨s, rfl, by omega, _, by omega, hR2, HG2.out⟩
  · have hki : (k : Int) ≤ (s.size : Int) := by omega
    go_wp2_with fail
    go_ret
    exact ⟨_, rfl, by rw [ByteArray.size_extract]; omega, _, by omega, hR2, HG2.out⟩
  · go_wp2_with fail
    refine (of_lit 1 5 _ rfl (by omega) (by omega) ok_mut5 B g n c (p + 2) ao _ hR2 (by omega)).mono ?_
    rintro e w3 ⟨x, rfl, hx, p3, hp3, hR3, hg3⟩
    go_wp2_with fail
    go_ret
    exact ⟨_, rfl, by rw [ByteArray.size_append]; omega, p3, by omega, hR3, grown_tr HG2.out hg3⟩
  · go_wp2_with fail
    go_ret
    exact ⟨s, rfl, by omega, _, by omega, hR2, HG2.out⟩
end Go.Proofs.YtpfheanpbbfpdaaDoor
