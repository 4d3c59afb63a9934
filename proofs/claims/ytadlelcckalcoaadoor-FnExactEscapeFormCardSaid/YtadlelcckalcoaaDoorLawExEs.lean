/- The walk of FnExactEscapeForm. -/
import Derived.Test.YtadlelcckalcoaaDoorEsc
import Derived.Test.YtadlelcckalcoaaDoorMaxI
namespace Go.Proofs.YtadlelcckalcoaaDoor
open Go.RowKit
set_option maxRecDepth 100000

set_option maxHeartbeats 400000 in
theorem fnExactEscapeForm_walk (a0 : ByteArray) (h0 : a0.size ≤ maxLen) (w : World) (hmx : MaxI w) :
    Calls Tryd.prog 9 #[.string a0] w fun e w' => e = .returned (.bool true) ∧ Below w.heap.size w w' := by
  have HMX := Lib.hid hmx
  clear hmx
  have hs0 := h0
  unfold maxLen at hs0
  by_cases hb0 : 1048576 < a0.size
  · go_enter Tryd.func9, Tryd.ntmps9
    go_wp2
    go_ret
    exact ⟨rfl, Below.refl _ _⟩
  go_enter Tryd.func9, Tryd.ntmps9
  go_wp2_with fail
  refine (sEscapeForm_any a0 _ h0).mono ?_
  rintro e w1 ⟨rfl, hb1⟩
  have HB1 := Lib.hid hb1
  clear hb1
  go_wp2_with fail
  refine (iEscapeForm_any a0 _ (by omega) (HMX.out.below (Nat.le_refl _) HB1.out)).mono ?_
  rintro e w2 ⟨rfl, hb2⟩
  go_wp2_with fail
  go_ret
  exact ⟨rfl, HB1.out.trans (hb2.mono HB1.out.size)⟩
end Go.Proofs.YtadlelcckalcoaaDoor
