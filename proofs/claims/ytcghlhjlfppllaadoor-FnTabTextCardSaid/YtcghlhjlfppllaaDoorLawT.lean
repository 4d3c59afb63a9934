/- DrawTabText, and the walk of FnTabText. -/
import Derived.Test.YtcghlhjlfppllaaDoorPlainU
import Derived.Test.YtcghlhjlfppllaaDoorTabTextS
import Derived.Test.YtcghlhjlfppllaaDoorExpandI
import Derived.Test.YtcghlhjlfppllaaDoorDraw3
import Derived.Test.YtcghlhjlfppllaaDoorLawV
namespace Go.Proofs.YtcghlhjlfppllaaDoor
open Go.RowKit
set_option maxRecDepth 100000

set_option maxHeartbeats 2000000 in
theorem dTabText_any (a : Option Addr) (len cap : Nat) (zs : List Int) (w : World) (hr : IsRow .u8 w a len cap zs) :
    Calls Tryd.prog 11 #[.slice a len cap] w fun e w' => ∃ (s : ByteArray) (x : Int), e = .returned (.tuple #[.string s, .int .i64 x]) ∧ s.size ≤ 200 ∧ 0 ≤ x ∧ x ≤ 100 ∧ Below w.heap.size w w' := by
  go_enter Tryd.func11, Tryd.ntmps11
  go_wp2_with fail
  refine (newReader_any a len cap zs _ hr).mono ?_
  rintro e w1 ⟨n, c, rfl, hR, hb1⟩
  go_wp2_with fail
  refine (someText_any _ _ n c 0 a _ hR (by omega)).mono ?_
  rintro e w2 ⟨s, rfl, hs, p2, hp2, hR2, hg2⟩
  have b2 := Lib.hid (hb1.grown hg2 hb1.size (fun k hk => by cases hk; exact Nat.le_refl _))
  go_wp2_with fail
  refine (one_lit 0 13 8 _ rfl (by omega) (by omega) ?_ _ _ n c p2 a _ hR2 (by omega)).mono ?_
  · simp [okInts]
  rintro e w3 ⟨x, rfl, hx0, hx6, p3, hp3, hR3, hg3⟩
  have b3 := Lib.hid (b2.out.grown hg3 b2.out.size (fun k hk => by cases hk; exact Nat.le_refl _))
  go_wp2_with fail
  go_ret2
  exact ⟨s, x, rfl, hs, hx0, by omega, b3.out⟩

set_option maxHeartbeats 2000000 in
theorem fnTabText_walk (a : Option Addr) (len cap : Nat) (zs : List Int) (w : World) (hr : IsRow .u8 w a len cap zs) :
    Calls Tryd.prog 3 #[.slice a len cap] w fun e w' => e = .returned (.bool true) ∧ Below w.heap.size w w' := by
  have hlen := row_len hr
  by_cases hb : 1048576 < len
  · go_enter Tryd.func3, Tryd.ntmps3
    go_wp2
    go_ret
    exact ⟨rfl, Below.refl _ _⟩
  · go_enter Tryd.func3, Tryd.ntmps3
    go_wp2_with fail
    refine (dTabText_any a len cap zs _ hr).mono ?_
    rintro e w1 ⟨s, x, rfl, hs, hx0, hx1, hb1⟩
    have hsm : s.size ≤ maxLen := by unfold maxLen; omega
    have hwf : (Lit.int .i64 x).wf = true := WalkArith.wf_i64 (by omega)
    go_wp2_with fail
    refine (iTabText_any s x _ hsm hwf).mono ?_
    rintro e w2 ⟨rfl, hb2⟩
    have b2 := Lib.hid (hb1.trans (hb2.mono hb1.size))
    go_wp2_with fail
    refine (sTabText_any s x _ hsm hwf).mono ?_
    rintro e w3 ⟨rfl, hb3⟩
    have b3 := Lib.hid (b2.out.trans (hb3.mono b2.out.size))
    clear hb1 hb2 hb3
    by_cases h0 : (pl.tabB' s x).size = 0
    · have h0' : (pl.tabB' s x).toList.isEmpty = true := pl.empty_of h0
      clear h0
      go_wp2_with fail
      refine (sTabText_any s x _ hsm hwf).mono ?_
      rintro e w4 ⟨rfl, hb4⟩
      have b4 := Lib.hid (b3.out.trans (hb4.mono b3.out.size))
      go_wp2_with fail
      go_ret
      exact ⟨rfl, b4.out⟩
    · have h0' : (pl.tabB' s x).toList.isEmpty = false := pl.nonempty_of h0
      obtain ⟨_, hz, hbk⟩ := pl.tabOk_of h0
      have HB := Lib.hid hbk
      clear hbk h0
      obtain ⟨E, HE⟩ : ∃ E, Hid (pl.tabB' s x = E) := ⟨_, Lib.hid rfl⟩
      rw [HE.out] at HB hz h0' ⊢
      have hEm : E.size ≤ maxLen := by unfold maxLen; omega
      go_wp2_with fail
      refine (iExpandTabs_any E x _ hEm hwf).mono ?_
      rintro e w7 ⟨rfl, hb7⟩
      rw [HB.out]
      have b7 := Lib.hid (b3.out.trans (hb7.mono b3.out.size))
      go_wp2_with fail
      go_ret
      exact ⟨rfl, b7.out⟩
end Go.Proofs.YtcghlhjlfppllaaDoor
