/- The walk of FnExactUnquoteLine. -/
import Derived.Test.YtkbfceahhginhaaRRRRDoorRRRRUnq
namespace Go.Proofs.YtkbfceahhginhaaRRRRDoorRRRR
open Go.RowKit
set_option maxRecDepth 100000

set_option maxHeartbeats 400000 in
theorem fnExactUnquoteLine_walk (a0 : ByteArray) (h0 : a0.size ≤ maxLen) (w : World) :
    Calls Tryd.prog 7 #[.string a0] w fun e w' => e = .returned (.bool true) ∧ Below w.heap.size w w' := by
  have hs0 := h0
  unfold maxLen at hs0
  by_cases hb0 : 1048576 < a0.size
  · go_enter Tryd.func7, Tryd.ntmps7
    go_wp2
    go_ret
    exact ⟨rfl, Below.refl _ _⟩
  go_enter Tryd.func7, Tryd.ntmps7
  go_wp2_with fail
  refine (sUnquoteLine_any a0 _ h0).mono ?_
  rintro e w1 ⟨rfl, hb1⟩
  obtain ⟨n, HN⟩ : ∃ n, Hid (pl.gtR a0 = n) := ⟨_, Lib.hid rfl⟩
  obtain ⟨t, HT⟩ : ∃ t, Hid (pl.unqR a0 = t) := ⟨_, Lib.hid rfl⟩
  rw [HN.out, HT.out]
  go_wp2_with fail
  refine (iUnquoteLine_any a0 _ h0).mono ?_
  rintro e w2 ⟨rfl, hb2⟩
  rw [HN.out, HT.out]
  go_wp2_with fail
  go_ret
  exact ⟨rfl, hb1.trans (hb2.mono hb1.size)⟩
end Go.Proofs.YtkbfceahhginhaaRRRRDoorRRRR
