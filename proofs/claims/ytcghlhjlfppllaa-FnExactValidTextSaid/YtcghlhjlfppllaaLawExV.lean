/- The walk of FnExactValidText. -/
import Derived.Test.YtcghlhjlfppllaaValid
import Derived.Handy
namespace Go.Proofs.Ytcghlhjlfppllaa
open Go.RowKit

theorem fnExactValidText_walk (s : ByteArray) (hs : s.size ≤ maxLen) (w : World) :
    Calls Try.prog 8 #[.string s] w fun e w' => e = .returned (.bool true) ∧ Below w.heap.size w w' := by
  have hs' := hs
  unfold maxLen at hs'
  by_cases hb : 1048576 < s.size
  · go_enter Try.func8, Try.ntmps8
    go_wp2
    go_ret
    exact ⟨rfl, Below.refl _ _⟩
  · go_enter Try.func8, Try.ntmps8
    go_wp2_with (first | (go_at_call 15; refine (sValidText_any _ _ hs).mono ?_; rintro e w' ⟨rfl, rfl⟩) | (go_at_call 14; refine (iValidText_any _ _ hs).mono ?_; rintro e w' ⟨rfl, hbel⟩))
    go_ret
    exact ⟨rfl, by assumption⟩
end Go.Proofs.Ytcghlhjlfppllaa
