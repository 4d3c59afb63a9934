/- Contracts: strings.Trim of spaces, and trimCell. -/
import Derived.Test.YtpfheanpbbfpdaaDoorPkC
import Derived.Test.YtpfheanpbbfpdaaDoorTrim
import Derived.Test.YtpfheanpbbfpdaaDoorTrimL
import Derived.BigQuiet
namespace Go.Proofs.YtpfheanpbbfpdaaDoor
open Go.RowKit
set_option maxRecDepth 100000
set_option linter.unusedVariables false

theorem trimRightByte_q (s t : ByteArray) (hs : s.size ≤ 1000000) (ht : pl.bs (pl.rtrim s.data.toList) = t) (w : World) (n : Nat) :
    Calls Tryd.prog 133 #[.string s, .int .u8 32] (w.drewN n) fun e w'' => e = .returned (.string t) ∧ ∃ m, w'' = w.drewN m :=
  (trimRightByte_sp s _ hs).mono fun e w' ⟨h1, h2⟩ => ⟨by rw [h1, ht], n, h2.symm⟩
theorem trimLeftByte_q (s t : ByteArray) (ht : pl.ltrim s = t) (w : World) (n : Nat) :
    Calls Tryd.prog 132 #[.string s, .int .u8 32] (w.drewN n) fun e w'' => e = .returned (.string t) ∧ ∃ m, w'' = w.drewN m :=
  (trimLeftByte_sp s _).mono fun e w' ⟨h1, h2⟩ => ⟨by rw [h1, ht], n, h2.symm⟩

theorem trim_sp (s : ByteArray) (w : World) (hs : s.size ≤ 1000000) :
    Calls Tryd.prog 100 #[.string s, .string ⟨#[32]⟩] w fun e w' => e = .returned (.string (pl.trimB s)) ∧ ∃ m, w' = w.drewN m := by
  by_cases h0 : s.size = 0
  · have h0' : s.toList.isEmpty = true := pl.empty_of h0
    have hn := Lib.hid (show pl.trimB s = s from by
      have e0 : s.data.toList = [] := List.length_eq_zero_iff.1 (by rw [pl.len_eq]; exact h0)
      have e1 : pl.bs (pl.trimL s.data.toList) = pl.bs s.data.toList := by rw [e0]; rfl
      exact e1.trans (pl.bs_self s))
    clear h0
    go_enter Tryd.func100, Tryd.ntmps100
    go_wp2_with fail
    go_ret
    exact ⟨by rw [hn.out]; rfl, 0, rfl⟩
  · have h0' : s.toList.isEmpty = false := pl.nonempty_of h0
    obtain ⟨t, HT⟩ : ∃ t, Hid (pl.bs (pl.rtrim s.data.toList) = t) := ⟨_, Lib.hid rfl⟩
    obtain ⟨u, HU⟩ : ∃ u, Hid (pl.ltrim t = u) := ⟨_, Lib.hid rfl⟩
    have HR : Hid (pl.trimB s = u) := Lib.hid (by rw [← HU.out, ← HT.out]; rfl)
    clear h0
    go_enter Tryd.func100, Tryd.ntmps100
    go_wp2_with fail
    go_quiet (first | (go_at_call 133; exact trimRightByte_q s t hs HT.out _ _) | (go_at_call 132; exact trimLeftByte_q t u HU.out _ _))
    go_wp2_with fail
    go_ret
    exact ⟨by rw [HR.out]; rfl, _, rfl⟩

theorem trimCell_any (s : ByteArray) (w : World) (hs : s.size ≤ 1000000) :
    Calls Tryd.prog 55 #[.string s] w fun e w' => e = .returned (.string (pl.trimB s)) ∧ Below w.heap.size w w' := by
  go_enter Tryd.func55, Tryd.ntmps55
  go_wp2_with fail
  refine (trim_sp s _ hs).mono ?_
  rintro e w' ⟨rfl, m, rfl⟩
  go_wp2_with fail
  go_ret
  exact ⟨rfl, below_drewN (Below.refl _ _) m⟩
end Go.Proofs.YtpfheanpbbfpdaaDoor
