/- The walk of FnExactMatchForm. -/
import Derived.Test.YtadlelcckalcoaaMatchF
import Derived.Test.YtadlelcckalcoaaMarkF
import Derived.Test.YtadlelcckalcoaaMaxI
import Derived.Test.YtadlelcckalcoaaSpan
import Derived.Test.YtadlelcckalcoaaArgsP
namespace Go.Proofs.Ytadlelcckalcoaa
open Go.RowKit
set_option maxRecDepth 100000
set_option linter.unusedVariables false

set_option maxHeartbeats 8000000 in
theorem fnExactMatchForm_walk (a0 : ByteArray) (h0 : a0.size ≤ maxLen) (a1 : ByteArray) (h1 : a1.size ≤ maxLen) (w : World) (hmx : MaxI w) :
    Calls Try.prog 8 #[.string a0, .string a1] w fun e w' => e = .returned (.bool true) ∧ Below w.heap.size w w' := by
  have HMX := Lib.hid hmx
  clear hmx
  have hs0 := h0
  unfold maxLen at hs0
  have hs1 := h1
  unfold maxLen at hs1
  by_cases hb0 : 1048576 < a0.size
  · go_enter Try.func8, Try.ntmps8
    go_wp2_with fail
    go_ret
    exact ⟨rfl, Below.refl _ _⟩
  by_cases hb1 : 1048576 < a1.size
  · go_enter Try.func8, Try.ntmps8
    go_wp2_with fail
    go_ret
    exact ⟨rfl, Below.refl _ _⟩
  go_enter Try.func8, Try.ntmps8
  obtain ⟨D, HD⟩ : ∃ D, Hid (pl.matchD a0 a1 = D) := ⟨_, Lib.hid rfl⟩
  have HBD := Lib.hid ((show (pl.matchD a0 a1).length ≤ 1000000 from Nat.le_trans (pl.matchD_len a0 a1) (by omega)))
  rw [HD.out] at HBD
  obtain ⟨G, HG⟩ : ∃ G, Hid (pl.matchG a0 a1 = G) := ⟨_, Lib.hid rfl⟩
  go_wp2_with fail
  refine (sMatchForm_any a0 a1 _ (by omega) h1).mono ?_
  rintro e w1 ⟨wv, rfl, ho, hb⟩
  rw [HD.out] at ho
  rw [HG.out]
  have W := Lib.hid (ho.w hb.size)
  clear ho
  have S1 : Hid (w.heap.size ≤ w1.heap.size) := Lib.hid hb.size
  have HB1 := Lib.hid hb
  clear hb
  go_wp2_with fail
  refine (iMatchForm_any a0 a1 _ h0 h1 (HMX.out.below (Nat.le_refl _) HB1.out)).mono ?_
  rintro e w2 ⟨ggv, rfl, ho, hb⟩
  rw [HD.out] at ho
  rw [HG.out]
  have GG := Lib.hid (ho.w hb.size)
  clear ho
  have S2 : Hid (w1.heap.size ≤ w2.heap.size) := Lib.hid hb.size
  replace W := Lib.hid (W.out.below hb)
  have HB2 := Lib.hid (HB1.out.trans (hb.mono HB1.out.size))
  clear hb
  go_wp2_with fail
  refine (eqFillS_same D ggv wv _ GG.out.reads W.out.reads (by have := HBD.out; omega)).mono ?_
  rintro e w3 ⟨rfl, hb⟩
  have S3 : Hid (w2.heap.size ≤ w3.heap.size) := Lib.hid hb.size
  replace W := Lib.hid (W.out.below hb)
  replace GG := Lib.hid (GG.out.below hb)
  have HB3 := Lib.hid (HB2.out.trans (hb.mono HB2.out.size))
  clear hb
  go_wp2_with fail
  refine (markF_x _ _ 1 ggv D _ GG.out (by omega) (by have := HBD.out; omega)).mono ?_
  rintro e w4 ⟨rfl, hm, ht⟩
  obtain ⟨M, HM⟩ : ∃ M, Hid (1 + 2 * D.length = M) := ⟨_, Lib.hid rfl⟩
  rw [HM.out]
  have hMn : ¬ (M : Int) < 0 := by omega
  have S4 : Hid (w3.heap.size ≤ w4.heap.size) := Lib.hid ht.size
  replace W := Lib.hid (W.out.touch ht (by have := S1.out; have := S2.out; have := S3.out; have := S4.out; omega))
  have HB4 := Lib.hid (HB3.out.trans (ht.toBelow (by have := S1.out; have := S2.out; have := S3.out; have := S4.out; omega) (by have := S1.out; have := S2.out; have := S3.out; have := S4.out; omega)))
  replace GG := Lib.hid hm
  clear ht hm
  go_wp2_with fail
  refine (heldF_x 1 D.length ggv _ GG.out (by omega) (by have := HBD.out; omega)).mono ?_
  rintro e w5 ⟨rfl, hb⟩
  rw [HM.out]
  have S5 : Hid (w4.heap.size ≤ w5.heap.size) := Lib.hid hb.size
  replace W := Lib.hid (W.out.below hb)
  replace GG := Lib.hid (GG.out.below hb)
  have HB5 := Lib.hid (HB4.out.trans (hb.mono HB4.out.size))
  clear hb
  go_wp2_with fail
  refine (iMatchForm_any a0 a1 _ h0 h1 (HMX.out.below (Nat.le_refl _) HB5.out)).mono ?_
  rintro e w6 ⟨hhv, rfl, ho, hb⟩
  rw [HD.out] at ho
  rw [HG.out]
  have HH := Lib.hid (ho.w hb.size)
  clear ho
  have S6 : Hid (w5.heap.size ≤ w6.heap.size) := Lib.hid hb.size
  replace W := Lib.hid (W.out.below hb)
  replace GG := Lib.hid (GG.out.below hb)
  have HB6 := Lib.hid (HB5.out.trans (hb.mono HB5.out.size))
  clear hb
  go_wp2_with fail
  refine (eqFillS_same D hhv wv _ HH.out.reads W.out.reads (by have := HBD.out; omega)).mono ?_
  rintro e w7 ⟨rfl, hb⟩
  have S7 : Hid (w6.heap.size ≤ w7.heap.size) := Lib.hid hb.size
  replace W := Lib.hid (W.out.below hb)
  replace GG := Lib.hid (GG.out.below hb)
  replace HH := Lib.hid (HH.out.below hb)
  have HB7 := Lib.hid (HB6.out.trans (hb.mono HB6.out.size))
  clear hb
  go_wp2_with fail
  refine (heldF_x 1 D.length ggv _ GG.out (by omega) (by have := HBD.out; omega)).mono ?_
  rintro e w8 ⟨rfl, hb⟩
  rw [HM.out]
  have S8 : Hid (w7.heap.size ≤ w8.heap.size) := Lib.hid hb.size
  replace W := Lib.hid (W.out.below hb)
  replace GG := Lib.hid (GG.out.below hb)
  replace HH := Lib.hid (HH.out.below hb)
  have HB8 := Lib.hid (HB7.out.trans (hb.mono HB7.out.size))
  clear hb
  go_wp2_with fail
  go_ret
  exact ⟨rfl, HB8.out⟩
end Go.Proofs.Ytadlelcckalcoaa
