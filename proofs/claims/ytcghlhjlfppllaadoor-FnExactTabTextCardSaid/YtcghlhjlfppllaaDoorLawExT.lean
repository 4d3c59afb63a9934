/- The walk of FnExactTabText. -/
import Derived.Test.YtcghlhjlfppllaaDoorTabTextS
namespace Go.Proofs.YtcghlhjlfppllaaDoor
open Go.RowKit

set_option maxHeartbeats 400000 in
theorem fnExactTabText_walk (a0 : ByteArray) (h0 : a0.size ≤ maxLen) (a1 : Int) (h1 : (Lit.int .i64 a1).wf = true) (w : World) :
    Calls Tryd.prog 7 #[.string a0, .int .i64 a1] w fun e w' => e = .returned (.bool true) ∧ Below w.heap.size w w' := by
  have hs0 := h0
  unfold maxLen at hs0
  by_cases hb0 : 1048576 < a0.size
  · go_enter Tryd.func7, Tryd.ntmps7
    go_wp2
    go_ret
    exact ⟨rfl, Below.refl _ _⟩
  go_enter Tryd.func7, Tryd.ntmps7
  go_wp2_with fail
  refine (sTabText_any a0 a1 _ h0 h1).mono ?_
  rintro e w1 ⟨rfl, hb1⟩
  go_wp2_with fail
  refine (iTabText_any a0 a1 _ h0 h1).mono ?_
  rintro e w2 ⟨rfl, hb2⟩
  go_wp2_with fail
  go_ret
  exact ⟨rfl, hb1.trans (hb2.mono hb1.size)⟩
end Go.Proofs.YtcghlhjlfppllaaDoor
