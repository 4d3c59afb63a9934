/- DrawPadText, and the walk of FnPadText. -/
import Derived.Test.YtgfpbnafehpopaaPlainQ
import Derived.Test.YtgfpbnafehpopaaPad
import Derived.Test.YtgfpbnafehpopaaLawF
namespace Go.Proofs.Ytgfpbnafehpopaa
open Go.RowKit
set_option maxRecDepth 100000

set_option maxHeartbeats 2000000 in
theorem dPadText_any (a : Option Addr) (len cap : Nat) (zs : List Int) (w : World) (hr : IsRow .u8 w a len cap zs) :
    Calls Try.prog 14 #[.slice a len cap] w fun e w' => ∃ (s : ByteArray) (x : Int) (h : ByteArray), e = .returned (.tuple #[.string s, .int .i64 x, .string h]) ∧ s.size ≤ 200 ∧ -1 ≤ x ∧ x ≤ 200 ∧ h.size ≤ 6 ∧ Below w.heap.size w w' := by
  go_enter Try.func14, Try.ntmps14
  go_wp2_with fail
  refine (newReader_any a len cap zs _ hr).mono ?_
  rintro e w1 ⟨n, c, rfl, hR, hb1⟩
  go_wp2_with fail
  refine (someText_any _ _ n c 0 a _ hR (by omega)).mono ?_
  rintro e w2 ⟨s, rfl, hs, p2, hp2, hR2, hg2⟩
  have b2 := Lib.hid (hb1.grown hg2 hb1.size (fun k hk => by cases hk; exact Nat.le_refl _))
  go_wp2_with fail
  refine (one_lit (-1) 121 8 _ rfl (by omega) (by omega) ?_ _ _ n c p2 a _ hR2 (by omega)).mono ?_
  · simp [okInts]
  rintro e w3 ⟨x, rfl, hx0, hx6, p3, hp3, hR3, hg3⟩
  have b3 := Lib.hid (b2.out.grown hg3 b2.out.size (fun k hk => by cases hk; exact Nat.le_refl _))
  go_wp2_with fail
  refine (of_lit 6 5 _ rfl (by omega) (by omega) ?_ _ _ n c p3 a _ hR3 (by omega)).mono ?_
  · simp [okStrs, ByteArray.size_mk']
  rintro e w4 ⟨h, rfl, hh, p4, hp4, hR4, hg4⟩
  have b4 := Lib.hid (b3.out.grown hg4 b3.out.size (fun k hk => by cases hk; exact Nat.le_refl _))
  go_wp2_with fail
  go_ret3
  exact ⟨s, x, h, rfl, hs, hx0, by omega, hh, b4.out⟩

set_option maxHeartbeats 2000000 in
theorem fnPadText_walk (a : Option Addr) (len cap : Nat) (zs : List Int) (w : World) (hr : IsRow .u8 w a len cap zs) :
    Calls Try.prog 3 #[.slice a len cap] w fun e w' => e = .returned (.bool true) ∧ Below w.heap.size w w' := by
  have hlen := row_len hr
  by_cases hb : 1048576 < len
  · go_enter Try.func3, Try.ntmps3
    go_wp2
    go_ret
    exact ⟨rfl, Below.refl _ _⟩
  · go_enter Try.func3, Try.ntmps3
    go_wp2_with fail
    refine (dPadText_any a len cap zs _ hr).mono ?_
    rintro e w1 ⟨s, x, h, rfl, hs, hx0, hx1, hh, hb1⟩
    have hsm : s.size ≤ maxLen := by unfold maxLen; omega
    have hhm : h.size ≤ maxLen := by unfold maxLen; omega
    have hwf : (Lit.int .i64 x).wf = true := WalkArith.wf_i64 (by omega)
    go_wp2_with fail
    refine (iPadText_any s x h _ hsm hwf hhm).mono ?_
    rintro e w2 ⟨rfl, hb2⟩
    have b2 := Lib.hid (hb1.trans (hb2.mono hb1.size))
    go_wp2_with fail
    refine (sPadText_any s x h _ hsm hwf hhm).mono ?_
    rintro e w3 ⟨rfl, hb3⟩
    have b3 := Lib.hid (b2.out.trans (hb3.mono b2.out.size))
    clear hb1 hb2 hb3
    by_cases h0 : (pl.padB s x h).size = 0
    · have h0' : (pl.padB s x h).toList.isEmpty = true := pl.empty_of h0
      clear h0
      go_wp2_with fail
      refine (sPadText_any s x h _ hsm hwf hhm).mono ?_
      rintro e w4 ⟨rfl, hb4⟩
      have b4 := Lib.hid (b3.out.trans (hb4.mono b3.out.size))
      go_wp2_with fail
      go_ret
      exact ⟨rfl, b4.out⟩
    · have h0' : (pl.padB s x h).toList.isEmpty = false := pl.nonempty_of h0
      obtain ⟨⟨q0, q1⟩, hv, hz, hw, hag⟩ := pl.padOk_of h0
      have hsz := pl.validT_size hv
      have hwl := pl.wordsOf_len s
      have HW := Lib.hid hw
      have HA := Lib.hid hag
      clear hw hag h0 hv
      obtain ⟨E, HE⟩ : ∃ E, Hid (pl.padB s x h = E) := ⟨_, Lib.hid rfl⟩
      rw [HE.out] at HW HA hz h0' ⊢
      have hEm : E.size ≤ maxLen := by rw [hz]; unfold maxLen; omega
      have hmx : ((E.size : Int) == max (s.size : Int) x) = true := by rw [beq_iff_eq]; omega
      clear hz
      go_wp2_with fail
      refine (iWordsOf_any E _ hEm).mono ?_
      rintro e w4 ⟨v4, rfl, hv4, hb4⟩
      rw [HW.out] at hv4
      have b4 := Lib.hid (b3.out.trans (hb4.mono b3.out.size))
      go_wp2_with fail
      refine (iWordsOf_any s _ hsm).mono ?_
      rintro e w5 ⟨v5, rfl, hv5, hb5⟩
      have b5 := Lib.hid (b4.out.trans (hb5.mono b4.out.size))
      have hv4' := OStrs.below hv4 (Nat.le_refl _) hb5
      go_wp2_with fail
      refine (equalTexts_same _ _ _ _ hv4'.reads hv5.reads (by omega)).mono ?_
      rintro e w6 ⟨rfl, hb6⟩
      have b6 := Lib.hid (b5.out.trans (hb6.mono b5.out.size))
      clear hb4 hb5 hb6 hv4 hv5 hv4'
      go_wp2_with fail
      refine (iPadText_any E x h _ hEm hwf hhm).mono ?_
      rintro e w7 ⟨rfl, hb7⟩
      rw [HA.out]
      have b7 := Lib.hid (b6.out.trans (hb7.mono b6.out.size))
      go_wp2_with fail
      go_ret
      exact ⟨rfl, b7.out⟩
end Go.Proofs.Ytgfpbnafehpopaa
