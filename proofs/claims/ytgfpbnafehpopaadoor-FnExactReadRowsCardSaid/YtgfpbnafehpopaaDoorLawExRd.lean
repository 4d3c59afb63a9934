/- The walk of FnExactReadRows. -/
import Derived.Test.YtgfpbnafehpopaaDoorReadI
import Derived.Test.YtgfpbnafehpopaaDoorReadS
import Derived.Test.YtgfpbnafehpopaaDoorMaxI
import Derived.Test.YtgfpbnafehpopaaDoorSpan
import Derived.Test.YtgfpbnafehpopaaDoorArgsP
namespace Go.Proofs.YtgfpbnafehpopaaDoor
open Go.RowKit
set_option maxRecDepth 100000
set_option linter.unusedVariables false

set_option maxHeartbeats 8000000 in
theorem fnExactReadRows_walk (a0 : Option Addr) (len0 cap0 : Nat) (ss0 : List ByteArray) (w : World) (h0 : IsStrs w a0 len0 cap0 ss0) (hmx : MaxI w) :
    Calls Tryd.prog 7 #[.slice a0 len0 cap0] w fun e w' => e = .returned (.bool true) ∧ Below w.heap.size w w' := by
  have HMX := Lib.hid hmx
  clear hmx
  obtain ⟨l0, hr0, HLN0, HSZ0⟩ : ∃ l, RStrs w (.slice a0 len0 cap0) l ∧ Hid (l.length ≤ maxLen) ∧ Hid (∀ i, i < l.length → (nth l i).size ≤ maxLen) := by
    obtain ⟨h1, h2, h3, h4⟩ := h0.reads
    exact ⟨_, h1, Lib.hid (by rw [h2]; exact h3), Lib.hid (by rw [h2]; exact h4)⟩
  have HR0 := Lib.hid hr0
  clear h0 hr0
  go_enter Tryd.func7, Tryd.ntmps7
  go_wp2_with fail
  refine (szStringS_any l0 _ _ HR0.out HLN0.out HSZ0.out).mono ?_
  rintro e w' ⟨⟨r, rfl, hres⟩, rfl⟩
  rcases hres with hneg | ⟨hpos, hsm⟩
  · go_wp2_with fail
    go_ret
    exact ⟨rfl, Below.refl _ _⟩
  have HS0 := Lib.hid hsm
  clear hsm
  obtain ⟨D, HD⟩ : ∃ D, Hid (pl.readR l0 = D) := ⟨_, Lib.hid rfl⟩
  have HBD := Lib.hid (pl.readR_bd l0)
  rw [HD.out] at HBD
  obtain ⟨G, HG⟩ : ∃ G, Hid (pl.readB l0 = G) := ⟨_, Lib.hid rfl⟩
  go_wp2_with fail
  refine (toStringS_any l0 _ _ HR0.out HS0.out.1).mono ?_
  rintro e w1 ⟨a0v, rfl, ho, hb⟩
  have A0 := Lib.hid (ho.x hb.size)
  clear ho
  have S1 : Hid (w.heap.size ≤ w1.heap.size) := Lib.hid hb.size
  have HB1 := Lib.hid hb
  clear hb
  go_wp2_with fail
  refine (sReadRows_any l0 a0v _ A0.out.reads HS0.out.1 HS0.out.2).mono ?_
  rintro e w2 ⟨wv, rfl, ho, hb⟩
  rw [HD.out] at ho
  rw [HG.out]
  have W := Lib.hid (ho.x hb.size)
  clear ho
  have S2 : Hid (w1.heap.size ≤ w2.heap.size) := Lib.hid hb.size
  replace A0 := Lib.hid (A0.out.below hb)
  have HB2 := Lib.hid (HB1.out.trans (hb.mono HB1.out.size))
  clear hb
  clear A0
  go_wp2_with fail
  refine (toStringS_any l0 _ _ (HR0.out.below (Nat.le_refl _) HB2.out) HS0.out.1).mono ?_
  rintro e w3 ⟨x0v, rfl, ho, hb⟩
  have X0 := Lib.hid (ho.x hb.size)
  clear ho
  have S3 : Hid (w2.heap.size ≤ w3.heap.size) := Lib.hid hb.size
  replace W := Lib.hid (W.out.below hb)
  have HB3 := Lib.hid (HB2.out.trans (hb.mono HB2.out.size))
  clear hb
  go_wp2_with fail
  refine (iReadRows_any l0 x0v _ X0.out.reads HS0.out.1 HS0.out.2 (HMX.out.below (Nat.le_refl _) HB3.out)).mono ?_
  rintro e w4 ⟨ggv, rfl, ho, hb⟩
  rw [HD.out] at ho
  rw [HG.out]
  have GG := Lib.hid (ho.x hb.size)
  clear ho
  have S4 : Hid (w3.heap.size ≤ w4.heap.size) := Lib.hid hb.size
  replace W := Lib.hid (W.out.below hb)
  replace X0 := Lib.hid (X0.out.below hb)
  have HB4 := Lib.hid (HB3.out.trans (hb.mono HB3.out.size))
  clear hb
  go_wp2_with fail
  refine (eqSS_same D ggv wv _ GG.out.reads W.out.reads (by have := HBD.out.1; omega) (fun k hk => by have := HBD.out.2.2 k hk; omega)).mono ?_
  rintro e w5 ⟨rfl, hb⟩
  have S5 : Hid (w4.heap.size ≤ w5.heap.size) := Lib.hid hb.size
  replace W := Lib.hid (W.out.below hb)
  replace X0 := Lib.hid (X0.out.below hb)
  replace GG := Lib.hid (GG.out.below hb)
  have HB5 := Lib.hid (HB4.out.trans (hb.mono HB4.out.size))
  clear hb
  go_wp2_with fail
  refine (toStringS_any l0 _ _ (HR0.out.below (Nat.le_refl _) HB5.out) HS0.out.1).mono ?_
  rintro e w6 ⟨y0v, rfl, ho, hb⟩
  have Y0 := Lib.hid (ho.x hb.size)
  clear ho
  have S6 : Hid (w5.heap.size ≤ w6.heap.size) := Lib.hid hb.size
  replace W := Lib.hid (W.out.below hb)
  replace X0 := Lib.hid (X0.out.below hb)
  replace GG := Lib.hid (GG.out.below hb)
  have HB6 := Lib.hid (HB5.out.trans (hb.mono HB5.out.size))
  clear hb
  go_wp2_with fail
  refine (eqStringS_same l0 x0v y0v _ X0.out.reads Y0.out.reads (by have := HS0.out.1; omega)).mono ?_
  rintro e w7 ⟨rfl, hb⟩
  have S7 : Hid (w6.heap.size ≤ w7.heap.size) := Lib.hid hb.size
  replace W := Lib.hid (W.out.below hb)
  replace X0 := Lib.hid (X0.out.below hb)
  replace GG := Lib.hid (GG.out.below hb)
  replace Y0 := Lib.hid (Y0.out.below hb)
  have HB7 := Lib.hid (HB6.out.trans (hb.mono HB6.out.size))
  clear hb
  clear Y0
  go_wp2_with fail
  refine (markS_x _ _ 1 x0v l0 _ X0.out (by skip; omega) (by have := HS0.out.1; omega)).mono ?_
  rintro e w8 ⟨rfl, hm, ht⟩
  obtain ⟨K0, HK0⟩ : ∃ K, Hid (1 + l0.length = K) := ⟨_, Lib.hid rfl⟩
  rw [HK0.out]
  have hKn0 : ¬ (K0 : Int) < 0 := by omega
  have hKb0 : K0 ≤ 2000000 := by rw [← HK0.out]; have := HS0.out.1; omega
  have S8 : Hid (w7.heap.size ≤ w8.heap.size) := Lib.hid ht.size
  replace W := Lib.hid (W.out.touch ht (by have := S1.out; have := S2.out; have := S3.out; have := S4.out; have := S5.out; have := S6.out; have := S7.out; have := S8.out; omega))
  replace GG := Lib.hid (GG.out.touch ht (by have := S1.out; have := S2.out; have := S3.out; have := S4.out; have := S5.out; have := S6.out; have := S7.out; have := S8.out; omega))
  have HB8 := Lib.hid (HB7.out.trans (ht.toBelow (by have := S1.out; have := S2.out; have := S3.out; have := S4.out; have := S5.out; have := S6.out; have := S7.out; have := S8.out; omega) (by have := S1.out; have := S2.out; have := S3.out; have := S4.out; have := S5.out; have := S6.out; have := S7.out; have := S8.out; omega)))
  clear ht hm
  clear X0
  go_wp2_with fail
  refine (eqSS_same D ggv wv _ GG.out.reads W.out.reads (by have := HBD.out.1; omega) (fun k hk => by have := HBD.out.2.2 k hk; omega)).mono ?_
  rintro e w9 ⟨rfl, hb⟩
  have S9 : Hid (w8.heap.size ≤ w9.heap.size) := Lib.hid hb.size
  replace W := Lib.hid (W.out.below hb)
  replace GG := Lib.hid (GG.out.below hb)
  have HB9 := Lib.hid (HB8.out.trans (hb.mono HB8.out.size))
  clear hb
  go_wp2_with fail
  refine (markP_x _ _ 1 ggv D _ GG.out (by omega) (by have := HBD.out.2.1; have := HBD.out.1; omega) (by have := HBD.out.2.1; have := HBD.out.1; omega)).mono ?_
  rintro e w10 ⟨rfl, hm, ht⟩
  obtain ⟨M, HM⟩ : ∃ M, Hid (1 + pl.totTo D D.length = M) := ⟨_, Lib.hid rfl⟩
  rw [HM.out]
  have hMn : ¬ (M : Int) < 0 := by omega
  have S10 : Hid (w9.heap.size ≤ w10.heap.size) := Lib.hid ht.size
  replace W := Lib.hid (W.out.touch ht (by have := S1.out; have := S2.out; have := S3.out; have := S4.out; have := S5.out; have := S6.out; have := S7.out; have := S8.out; have := S9.out; have := S10.out; omega))
  have HB10 := Lib.hid (HB9.out.trans (ht.toBelow (by have := S1.out; have := S2.out; have := S3.out; have := S4.out; have := S5.out; have := S6.out; have := S7.out; have := S8.out; have := S9.out; have := S10.out; omega) (by have := S1.out; have := S2.out; have := S3.out; have := S4.out; have := S5.out; have := S6.out; have := S7.out; have := S8.out; have := S9.out; have := S10.out; omega)))
  replace GG := Lib.hid hm
  clear ht hm
  go_wp2_with fail
  refine (heldP_x 1 D ggv _ GG.out (by omega) (by have := HBD.out.2.1; have := HBD.out.1; omega) (by have := HBD.out.2.1; have := HBD.out.1; omega)).mono ?_
  rintro e w11 ⟨rfl, hb⟩
  rw [HM.out]
  have S11 : Hid (w10.heap.size ≤ w11.heap.size) := Lib.hid hb.size
  replace W := Lib.hid (W.out.below hb)
  replace GG := Lib.hid (GG.out.below hb)
  have HB11 := Lib.hid (HB10.out.trans (hb.mono HB10.out.size))
  clear hb
  go_wp2_with fail
  refine (toStringS_any l0 _ _ (HR0.out.below (Nat.le_refl _) HB11.out) HS0.out.1).mono ?_
  rintro e w12 ⟨z0v, rfl, ho, hb⟩
  have Z0 := Lib.hid (ho.x hb.size)
  clear ho
  have S12 : Hid (w11.heap.size ≤ w12.heap.size) := Lib.hid hb.size
  replace W := Lib.hid (W.out.below hb)
  replace GG := Lib.hid (GG.out.below hb)
  have HB12 := Lib.hid (HB11.out.trans (hb.mono HB11.out.size))
  clear hb
  go_wp2_with fail
  refine (iReadRows_any l0 z0v _ Z0.out.reads HS0.out.1 HS0.out.2 (HMX.out.below (Nat.le_refl _) HB12.out)).mono ?_
  rintro e w13 ⟨hhv, rfl, ho, hb⟩
  rw [HD.out] at ho
  rw [HG.out]
  have HH := Lib.hid (ho.x hb.size)
  clear ho
  have S13 : Hid (w12.heap.size ≤ w13.heap.size) := Lib.hid hb.size
  replace W := Lib.hid (W.out.below hb)
  replace GG := Lib.hid (GG.out.below hb)
  replace Z0 := Lib.hid (Z0.out.below hb)
  have HB13 := Lib.hid (HB12.out.trans (hb.mono HB12.out.size))
  clear hb
  clear Z0
  go_wp2_with fail
  refine (eqSS_same D hhv wv _ HH.out.reads W.out.reads (by have := HBD.out.1; omega) (fun k hk => by have := HBD.out.2.2 k hk; omega)).mono ?_
  rintro e w14 ⟨rfl, hb⟩
  have S14 : Hid (w13.heap.size ≤ w14.heap.size) := Lib.hid hb.size
  replace W := Lib.hid (W.out.below hb)
  replace GG := Lib.hid (GG.out.below hb)
  replace HH := Lib.hid (HH.out.below hb)
  have HB14 := Lib.hid (HB13.out.trans (hb.mono HB13.out.size))
  clear hb
  go_wp2_with fail
  refine (heldP_x 1 D ggv _ GG.out (by omega) (by have := HBD.out.2.1; have := HBD.out.1; omega) (by have := HBD.out.2.1; have := HBD.out.1; omega)).mono ?_
  rintro e w15 ⟨rfl, hb⟩
  rw [HM.out]
  have S15 : Hid (w14.heap.size ≤ w15.heap.size) := Lib.hid hb.size
  replace W := Lib.hid (W.out.below hb)
  replace GG := Lib.hid (GG.out.below hb)
  replace HH := Lib.hid (HH.out.below hb)
  have HB15 := Lib.hid (HB14.out.trans (hb.mono HB14.out.size))
  clear hb
  go_wp2_with fail
  go_ret
  exact ⟨rfl, HB15.out⟩
end Go.Proofs.YtgfpbnafehpopaaDoor
