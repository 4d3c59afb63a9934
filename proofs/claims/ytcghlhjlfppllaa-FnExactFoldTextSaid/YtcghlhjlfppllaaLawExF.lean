/- The walk of FnExactFoldText. -/
import Derived.Test.YtcghlhjlfppllaaFold
namespace Go.Proofs.Ytcghlhjlfppllaa
open Go.RowKit

set_option maxHeartbeats 400000 in
theorem fnExactFoldText_walk (a0 : ByteArray) (h0 : a0.size ≤ maxLen) (w : World) :
    Calls Try.prog 10 #[.string a0] w fun e w' => e = .returned (.bool true) ∧ Below w.heap.size w w' := by
  have hs0 := h0
  unfold maxLen at hs0
  by_cases hb0 : 1048576 < a0.size
  · go_enter Try.func10, Try.ntmps10
    go_wp2
    go_ret
    exact ⟨rfl, Below.refl _ _⟩
  go_enter Try.func10, Try.ntmps10
  go_wp2_with fail
  refine (sFoldText_any a0 _ h0).mono ?_
  rintro e w1 ⟨rfl, hb1⟩
  go_wp2_with fail
  refine (iFoldText_any a0 _ h0).mono ?_
  rintro e w2 ⟨rfl, hb2⟩
  go_wp2_with fail
  go_ret
  exact ⟨rfl, hb1.trans (hb2.mono hb1.size)⟩
end Go.Proofs.Ytcghlhjlfppllaa
