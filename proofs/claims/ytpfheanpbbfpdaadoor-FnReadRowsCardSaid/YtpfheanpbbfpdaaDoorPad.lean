/- Contracts: PadText of both sides. -/
import Derived.Test.YtpfheanpbbfpdaaDoorTabs
import Derived.Test.YtpfheanpbbfpdaaDoorPkA
namespace Go.Proofs.YtpfheanpbbfpdaaDoor
open Go.RowKit
set_option maxRecDepth 100000

set_option maxHeartbeats 1000000 in
theorem isHow_any (h : ByteArray) (l r m : Bool) (hh : pl.How h l r m) (w : World) :
    Calls Tryd.prog 95 #[.string h] w fun e w' => e = .returned (.bool (l || r || m)) ∧ w = w' := by
  obtain ⟨h1, h2, h3⟩ := hh
  cases l <;> cases r <;> cases m
  all_goals
    go_enter Tryd.func95, Tryd.ntmps95
    go_wp2
    go_ret
    exact ⟨rfl, rfl⟩

set_option maxHeartbeats 1000000 in
theorem spad_left (s h : ByteArray) (wd : Nat) (hh : pl.How h true false false) (w : World) (hs : s.size ≤ 120) (h2 : wd ≤ 120) :
    Calls Tryd.prog 97 #[.string s, .int .i64 wd, .string h] w fun e w' => e = .returned (.string (s ++ pl.spB (wd - s.size))) ∧ w = w' := by
  obtain ⟨q1, q2, q3⟩ := hh
  have hz : (pl.spB (wd - s.size)).size ≤ 120 := by rw [pl.spB_size]; omega
  go_enter Tryd.func97, Tryd.ntmps97
  go_wp2_with (go_at_call 128; refine (sspaces_at _ (wd - s.size) (by omega) _ (by omega)).mono ?_; rintro e w' ⟨rfl, rfl⟩)
  go_ret
  exact ⟨rfl, rfl⟩

set_option maxHeartbeats 1000000 in
theorem spad_right (s h : ByteArray) (wd : Nat) (hh : pl.How h false true false) (w : World) (hs : s.size ≤ 120) (h2 : wd ≤ 120) :
    Calls Tryd.prog 97 #[.string s, .int .i64 wd, .string h] w fun e w' => e = .returned (.string (pl.spB (wd - s.size) ++ s)) ∧ w = w' := by
  obtain ⟨q1, q2, q3⟩ := hh
  have hz : ∀ n, n ≤ wd - s.size → (pl.spB n).size ≤ 120 := fun n hn => by rw [pl.spB_size]; omega
  have hz1 := hz (wd - s.size) (by omega)
  have hz2 := hz ((wd - s.size) / 2) (by omega)
  have hz3 := hz (wd - s.size - (wd - s.size) / 2) (by omega)
  clear hz
  go_enter Tryd.func97, Tryd.ntmps97
  go_wp2_with fail
  refine (sspaces_at _ (wd - s.size) (by omega) _ (by omega)).mono ?_
  rintro e w' ⟨rfl, rfl⟩
  go_wp2_with fail
  go_ret
  exact ⟨rfl, rfl⟩

set_option maxHeartbeats 1000000 in
theorem spad_mid (s h : ByteArray) (wd : Nat) (hh : pl.How h false false true) (w : World) (hs : s.size ≤ 120) (h2 : wd ≤ 120) :
    Calls Tryd.prog 97 #[.string s, .int .i64 wd, .string h] w fun e w' => e = .returned (.string (pl.spB ((wd - s.size) / 2) ++ s ++ pl.spB (wd - s.size - (wd - s.size) / 2))) ∧ w = w' := by
  obtain ⟨q1, q2, q3⟩ := hh
  have hz : ∀ n, n ≤ wd - s.size → (pl.spB n).size ≤ 120 := fun n hn => by rw [pl.spB_size]; omega
  have hz1 := hz (wd - s.size) (by omega)
  have hz2 := hz ((wd - s.size) / 2) (by omega)
  have hz3 := hz (wd - s.size - (wd - s.size) / 2) (by omega)
  clear hz
  go_enter Tryd.func97, Tryd.ntmps97
  go_wp2_with fail
  refine (sspaces_at _ ((wd - s.size) / 2) (by omega) _ (by omega)).mono ?_
  rintro e w' ⟨rfl, rfl⟩
  go_wp2_with fail
  refine (sspaces_at _ (wd - s.size - (wd - s.size) / 2) (by omega) _ (by omega)).mono ?_
  rintro e w' ⟨rfl, rfl⟩
  go_wp2_with fail
  go_ret
  exact ⟨rfl, rfl⟩

theorem p_cases (a : Int) : (∃ wd : Nat, a = wd ∧ wd ≤ 120) ∨ (a < 0) ∨ (0 ≤ a ∧ 120 < a) := by
  by_cases h1 : a < 0
  · exact .inr (.inl h1)
  · by_cases h2 : 120 < a
    · exact .inr (.inr ⟨by omega, h2⟩)
    · exact .inl ⟨a.toNat, by omega, by omega⟩

set_option maxHeartbeats 1000000 in
theorem iisHow_any (h : ByteArray) (l r m : Bool) (hh : pl.How h l r m) (w : World) :
    Calls Tryd.prog 61 #[.string h] w fun e w' => e = .returned (.bool (l || r || m)) ∧ w = w' := by
  obtain ⟨h1, h2, h3⟩ := hh
  cases l <;> cases r <;> cases m
  all_goals
    go_enter Tryd.func61, Tryd.ntmps61
    go_wp2
    go_ret
    exact ⟨rfl, rfl⟩

set_option maxHeartbeats 1000000 in
theorem iPadText_ok (s : ByteArray) (wd : Nat) (h : ByteArray) (w : World) (hs : s.size ≤ maxLen) (hv : pl.validT s.data.toList = true) (h2 : wd ≤ 120) :
    Calls Tryd.prog 105 #[.string s, .int .i64 wd, .string h] w fun e w' => e = .returned (.string (pl.padB s wd h)) ∧ Below w.heap.size w w' := by
  have hsz := pl.validT_size hv
  have hz : ∀ n, n ≤ wd - s.size → (pl.spB n).size ≤ 120 := fun n hn => by rw [pl.spB_size]; omega
  have hz0 := hz 0 (by omega)
  have hz1 := hz (wd - s.size) (by omega)
  have hz2 := hz ((wd - s.size) / 2) (by omega)
  have hz3 := hz (wd - s.size - (wd - s.size) / 2) (by omega)
  clear hz
  rcases pl.how_cases h with ⟨hl, hh⟩ | ⟨hl, hh⟩ | ⟨hl, hh⟩ | ⟨hl, hh⟩
  · have hf := Lib.hid (show pl.padB s wd h = pl.spB 0 ++ s ++ pl.spB (wd - s.size - 0) from (pl.padB_left hv h2 hl).trans (by rw [pl.sp0_app]; rfl))
    have HH := hh
    obtain ⟨q1, q2, q3⟩ := hh
    clear hl
    go_enter Tryd.func105, Tryd.ntmps105
    go_wp2_with (first | (go_at_call 85; refine (iValidText_any _ _ hs).mono ?_; rintro e w1 ⟨rfl, hb1⟩) | (go_at_call 61; refine (iisHow_any _ _ _ _ HH _).mono ?_; rintro e w' ⟨rfl, rfl⟩))
    refine (ispaces_at _ (0) (by omega) _ (by omega)).mono ?_
    rintro e w2 ⟨rfl, hb2⟩
    go_wp2_with fail
    refine (ispaces_at _ (wd - s.size - 0) (by omega) _ (by omega)).mono ?_
    rintro e w3 ⟨rfl, hb3⟩
    go_wp2_with fail
    go_ret
    have g1 := hb1.size
    have g2 := hb2.size
    exact ⟨by rw [hf.out]; rfl, hb1.trans ((hb2.mono g1).trans (hb3.mono (by omega)))⟩
  · have hf := Lib.hid (show pl.padB s wd h = pl.spB (wd - s.size) ++ s ++ pl.spB 0 from (pl.padB_right hv h2 hl).trans (by rw [pl.app_sp0]))
    have HH := hh
    obtain ⟨q1, q2, q3⟩ := hh
    clear hl
    go_enter Tryd.func105, Tryd.ntmps105
    go_wp2_with (first | (go_at_call 85; refine (iValidText_any _ _ hs).mono ?_; rintro e w1 ⟨rfl, hb1⟩) | (go_at_call 61; refine (iisHow_any _ _ _ _ HH _).mono ?_; rintro e w' ⟨rfl, rfl⟩))
    refine (ispaces_at _ (wd - s.size) (by omega) _ (by omega)).mono ?_
    rintro e w2 ⟨rfl, hb2⟩
    go_wp2_with fail
    refine (ispaces_at _ (0) (by omega) _ (by omega)).mono ?_
    rintro e w3 ⟨rfl, hb3⟩
    go_wp2_with fail
    go_ret
    have g1 := hb1.size
    have g2 := hb2.size
    exact ⟨by rw [hf.out]; rfl, hb1.trans ((hb2.mono g1).trans (hb3.mono (by omega)))⟩
  · have hf := Lib.hid (pl.padB_mid hv h2 hl)
    have HH := hh
    obtain ⟨q1, q2, q3⟩ := hh
    clear hl
    go_enter Tryd.func105, Tryd.ntmps105
    go_wp2_with (first | (go_at_call 85; refine (iValidText_any _ _ hs).mono ?_; rintro e w1 ⟨rfl, hb1⟩) | (go_at_call 61; refine (iisHow_any _ _ _ _ HH _).mono ?_; rintro e w' ⟨rfl, rfl⟩))
    refine (ispaces_at _ ((wd - s.size) / 2) (by omega) _ (by omega)).mono ?_
    rintro e w2 ⟨rfl, hb2⟩
    go_wp2_with fail
    refine (ispaces_at _ (wd - s.size - (wd - s.size) / 2) (by omega) _ (by omega)).mono ?_
    rintro e w3 ⟨rfl, hb3⟩
    go_wp2_with fail
    go_ret
    have g1 := hb1.size
    have g2 := hb2.size
    exact ⟨by rw [hf.out]; rfl, hb1.trans ((hb2.mono g1).trans (hb3.mono (by omega)))⟩
  · have hf := Lib.hid (pl.padB_no (s := s) (a := wd) (.inr (.inr (.inr hl))))
    have HH := hh
    obtain ⟨q1, q2, q3⟩ := hh
    clear hl
    go_enter Tryd.func105, Tryd.ntmps105
    go_wp2_with (first | (go_at_call 85; refine (iValidText_any _ _ hs).mono ?_; rintro e w1 ⟨rfl, hb1⟩) | (go_at_call 61; refine (iisHow_any _ _ _ _ HH _).mono ?_; rintro e w' ⟨rfl, rfl⟩))
    go_ret
    exact ⟨by rw [hf.out]; rfl, hb1⟩

set_option maxHeartbeats 1000000 in
theorem iPadText_any (s : ByteArray) (a : Int) (h : ByteArray) (w : World) (hs : s.size ≤ maxLen) (_ha : (Lit.int .i64 a).wf = true) (_hh : h.size ≤ maxLen) :
    Calls Tryd.prog 105 #[.string s, .int .i64 a, .string h] w fun e w' => e = .returned (.string (pl.padB s a h)) ∧ Below w.heap.size w w' := by
  by_cases hv : pl.validT s.data.toList = true
  · rcases p_cases a with ⟨wd, rfl, h2⟩ | h0 | ⟨h0, h1⟩
    · exact iPadText_ok s wd h w hs hv h2
    · have hf := Lib.hid (pl.padB_no (s := s) (h := h) (.inr (.inl h0)))
      go_enter Tryd.func105, Tryd.ntmps105
      go_wp2_with (go_at_call 85; refine (iValidText_any _ _ hs).mono ?_; rintro e w1 ⟨rfl, hb1⟩)
      go_ret
      exact ⟨by rw [hf.out]; rfl, hb1⟩
    · have hf := Lib.hid (pl.padB_no (s := s) (h := h) (.inr (.inr (.inl h1))))
      go_enter Tryd.func105, Tryd.ntmps105
      go_wp2_with (go_at_call 85; refine (iValidText_any _ _ hs).mono ?_; rintro e w1 ⟨rfl, hb1⟩)
      go_ret
      exact ⟨by rw [hf.out]; rfl, hb1⟩
  · have hv' : pl.validT s.data.toList = false := by simpa using hv
    have hf := Lib.hid (pl.padB_no (a := a) (h := h) (.inl hv'))
    clear hv
    go_enter Tryd.func105, Tryd.ntmps105
    go_wp2_with (go_at_call 85; refine (iValidText_any _ _ hs).mono ?_; rintro e w1 ⟨rfl, hb1⟩)
    go_ret
    exact ⟨by rw [hf.out]; rfl, hb1⟩
end Go.Proofs.YtpfheanpbbfpdaaDoor
