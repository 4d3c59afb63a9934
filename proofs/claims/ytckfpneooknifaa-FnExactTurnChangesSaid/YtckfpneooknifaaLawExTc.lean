/- The walk of FnExactTurnChanges. -/
import Derived.Test.YtckfpneooknifaaTurnC
import Derived.Test.YtckfpneooknifaaMarkC
import Derived.Test.YtckfpneooknifaaSpan
import Derived.Test.YtckfpneooknifaaArgsP
namespace Go.Proofs.Ytckfpneooknifaa
open Go.RowKit
set_option maxRecDepth 100000
set_option linter.unusedVariables false

set_option maxHeartbeats 8000000 in
theorem fnExactTurnChanges_walk (a0 : Option Addr) (len0 cap0 : Nat) (w : World) (h0 : IsChs w a0 len0 cap0) :
    Calls Try.prog 12 #[.slice a0 len0 cap0] w fun e w' => e = .returned (.bool true) ∧ Below w.heap.size w w' := by
  obtain ⟨fl0, hr0, HLN0, HSZ0⟩ : ∃ l, RCh w (.slice a0 len0 cap0) l ∧ Hid (l.length ≤ maxLen) ∧ Hid (∀ i, i < l.length → (pl.nthH l i).2.size ≤ maxLen) := by
    obtain ⟨l, h1, h2, h3, h4⟩ := h0.reads
    exact ⟨l, h1, Lib.hid (by rw [h2]; exact h3), Lib.hid (fun i hi => (h4 i hi).2)⟩
  have HR0 := Lib.hid hr0
  clear h0 hr0
  go_enter Try.func12, Try.ntmps12
  go_wp2_with fail
  refine (szChangeS_any fl0 _ 1048576 _ HR0.out (Nat.le_refl _) HLN0.out HSZ0.out).mono ?_
  rintro e w1 ⟨⟨r, rfl, hres⟩, hb⟩
  have S1 : Hid (w.heap.size ≤ w1.heap.size) := Lib.hid hb.size
  have HB1 := Lib.hid hb
  clear hb
  rcases hres with hneg | ⟨hpos, hsm⟩
  · go_wp2_with fail
    go_ret
    exact ⟨rfl, HB1.out⟩
  have HS0 := Lib.hid hsm
  clear hsm
  obtain ⟨r, rfl⟩ := Int.eq_ofNat_of_zero_le hpos
  have hr0 : ¬ (r : Int) < 0 := by omega
  obtain ⟨D, HD⟩ : ∃ D, Hid (pl.backR fl0 = D) := ⟨_, Lib.hid rfl⟩
  have HBD := Lib.hid ((show (pl.backR fl0).length ≤ 1000000 from Nat.le_trans (pl.backR_len fl0) (by omega)))
  rw [HD.out] at HBD
  go_wp2_with fail
  refine (toChangeS_any fl0 _ _ (HR0.out.below (Nat.le_refl _) HB1.out) HS0.out.1).mono ?_
  rintro e w2 ⟨a0v, rfl, ho, hb⟩
  have A0 := Lib.hid (ho.w hb.size)
  clear ho
  have S2 : Hid (w1.heap.size ≤ w2.heap.size) := Lib.hid hb.size
  have HB2 := Lib.hid (HB1.out.trans (hb.mono HB1.out.size))
  clear hb
  go_wp2_with fail
  refine (sTurnChanges_any fl0 a0v _ A0.out.reads (by have := HS0.out.1; unfold maxLen; omega) (fun i hi => by have := HS0.out.2 i hi; unfold maxLen; omega)).mono ?_
  rintro e w3 ⟨wv, rfl, ho, hb⟩
  rw [HD.out] at ho
  have W := Lib.hid (ho.w hb.size)
  clear ho
  have S3 : Hid (w2.heap.size ≤ w3.heap.size) := Lib.hid hb.size
  replace A0 := Lib.hid (A0.out.below hb)
  have HB3 := Lib.hid (HB2.out.trans (hb.mono HB2.out.size))
  clear hb
  clear A0
  go_wp2_with fail
  refine (toChangeS_any fl0 _ _ (HR0.out.below (Nat.le_refl _) HB3.out) HS0.out.1).mono ?_
  rintro e w4 ⟨x0v, rfl, ho, hb⟩
  have X0 := Lib.hid (ho.w hb.size)
  clear ho
  have S4 : Hid (w3.heap.size ≤ w4.heap.size) := Lib.hid hb.size
  replace W := Lib.hid (W.out.below hb)
  have HB4 := Lib.hid (HB3.out.trans (hb.mono HB3.out.size))
  clear hb
  go_wp2_with fail
  refine (iTurnChanges_any fl0 x0v _ X0.out.reads (fun i hi => by have := HS0.out.2 i hi; unfold maxLen; omega)).mono ?_
  rintro e w5 ⟨ggv, rfl, ho, hb⟩
  rw [HD.out] at ho
  have GG := Lib.hid (ho.w hb.size)
  clear ho
  have S5 : Hid (w4.heap.size ≤ w5.heap.size) := Lib.hid hb.size
  replace W := Lib.hid (W.out.below hb)
  replace X0 := Lib.hid (X0.out.below hb)
  have HB5 := Lib.hid (HB4.out.trans (hb.mono HB4.out.size))
  clear hb
  go_wp2_with fail
  refine (eqChangeS_same D ggv wv _ GG.out.reads W.out.reads (by have := HBD.out; omega)).mono ?_
  rintro e w6 ⟨rfl, hb⟩
  have S6 : Hid (w5.heap.size ≤ w6.heap.size) := Lib.hid hb.size
  replace W := Lib.hid (W.out.below hb)
  replace X0 := Lib.hid (X0.out.below hb)
  replace GG := Lib.hid (GG.out.below hb)
  have HB6 := Lib.hid (HB5.out.trans (hb.mono HB5.out.size))
  clear hb
  go_wp2_with fail
  refine (toChangeS_any fl0 _ _ (HR0.out.below (Nat.le_refl _) HB6.out) HS0.out.1).mono ?_
  rintro e w7 ⟨y0v, rfl, ho, hb⟩
  have Y0 := Lib.hid (ho.w hb.size)
  clear ho
  have S7 : Hid (w6.heap.size ≤ w7.heap.size) := Lib.hid hb.size
  replace W := Lib.hid (W.out.below hb)
  replace X0 := Lib.hid (X0.out.below hb)
  replace GG := Lib.hid (GG.out.below hb)
  have HB7 := Lib.hid (HB6.out.trans (hb.mono HB6.out.size))
  clear hb
  go_wp2_with fail
  refine (eqChangeS_same fl0 x0v y0v _ X0.out.reads Y0.out.reads (by have := HS0.out.1; omega)).mono ?_
  rintro e w8 ⟨rfl, hb⟩
  have S8 : Hid (w7.heap.size ≤ w8.heap.size) := Lib.hid hb.size
  replace W := Lib.hid (W.out.below hb)
  replace X0 := Lib.hid (X0.out.below hb)
  replace GG := Lib.hid (GG.out.below hb)
  replace Y0 := Lib.hid (Y0.out.below hb)
  have HB8 := Lib.hid (HB7.out.trans (hb.mono HB7.out.size))
  clear hb
  clear Y0
  go_wp2_with fail
  refine (markC_x _ _ 1 x0v fl0 _ X0.out (by skip; omega) (by have := HS0.out.1; omega)).mono ?_
  rintro e w9 ⟨rfl, hm, ht⟩
  obtain ⟨K0, HK0⟩ : ∃ K, Hid (1 + 2 * fl0.length = K) := ⟨_, Lib.hid rfl⟩
  rw [HK0.out]
  have hKn0 : ¬ (K0 : Int) < 0 := by omega
  have hKb0 : K0 ≤ 4000000 := by rw [← HK0.out]; have := HS0.out.1; omega
  have S9 : Hid (w8.heap.size ≤ w9.heap.size) := Lib.hid ht.size
  replace W := Lib.hid (W.out.touch ht (by have := S1.out; have := S2.out; have := S3.out; have := S4.out; have := S5.out; have := S6.out; have := S7.out; have := S8.out; have := S9.out; omega))
  replace GG := Lib.hid (GG.out.touch ht (by have := S1.out; have := S2.out; have := S3.out; have := S4.out; have := S5.out; have := S6.out; have := S7.out; have := S8.out; have := S9.out; omega))
  have HB9 := Lib.hid (HB8.out.trans (ht.toBelow (by have := S1.out; have := S2.out; have := S3.out; have := S4.out; have := S5.out; have := S6.out; have := S7.out; have := S8.out; have := S9.out; omega) (by have := S1.out; have := S2.out; have := S3.out; have := S4.out; have := S5.out; have := S6.out; have := S7.out; have := S8.out; have := S9.out; omega)))
  clear ht hm
  clear X0
  go_wp2_with fail
  refine (eqChangeS_same D ggv wv _ GG.out.reads W.out.reads (by have := HBD.out; omega)).mono ?_
  rintro e w10 ⟨rfl, hb⟩
  have S10 : Hid (w9.heap.size ≤ w10.heap.size) := Lib.hid hb.size
  replace W := Lib.hid (W.out.below hb)
  replace GG := Lib.hid (GG.out.below hb)
  have HB10 := Lib.hid (HB9.out.trans (hb.mono HB9.out.size))
  clear hb
  go_wp2_with fail
  refine (markC_x _ _ 1 ggv D _ GG.out (by omega) (by have := HBD.out; omega)).mono ?_
  rintro e w11 ⟨rfl, hm, ht⟩
  obtain ⟨M, HM⟩ : ∃ M, Hid (1 + 2 * D.length = M) := ⟨_, Lib.hid rfl⟩
  rw [HM.out]
  have hMn : ¬ (M : Int) < 0 := by omega
  have S11 : Hid (w10.heap.size ≤ w11.heap.size) := Lib.hid ht.size
  replace W := Lib.hid (W.out.touch ht (by have := S1.out; have := S2.out; have := S3.out; have := S4.out; have := S5.out; have := S6.out; have := S7.out; have := S8.out; have := S9.out; have := S10.out; have := S11.out; omega))
  have HB11 := Lib.hid (HB10.out.trans (ht.toBelow (by have := S1.out; have := S2.out; have := S3.out; have := S4.out; have := S5.out; have := S6.out; have := S7.out; have := S8.out; have := S9.out; have := S10.out; have := S11.out; omega) (by have := S1.out; have := S2.out; have := S3.out; have := S4.out; have := S5.out; have := S6.out; have := S7.out; have := S8.out; have := S9.out; have := S10.out; have := S11.out; omega)))
  replace GG := Lib.hid hm
  clear ht hm
  go_wp2_with fail
  refine (heldC_x 1 D.length ggv _ GG.out (by omega) (by have := HBD.out; omega)).mono ?_
  rintro e w12 ⟨rfl, hb⟩
  rw [HM.out]
  have S12 : Hid (w11.heap.size ≤ w12.heap.size) := Lib.hid hb.size
  replace W := Lib.hid (W.out.below hb)
  replace GG := Lib.hid (GG.out.below hb)
  have HB12 := Lib.hid (HB11.out.trans (hb.mono HB11.out.size))
  clear hb
  go_wp2_with fail
  refine (toChangeS_any fl0 _ _ (HR0.out.below (Nat.le_refl _) HB12.out) HS0.out.1).mono ?_
  rintro e w13 ⟨z0v, rfl, ho, hb⟩
  have Z0 := Lib.hid (ho.w hb.size)
  clear ho
  have S13 : Hid (w12.heap.size ≤ w13.heap.size) := Lib.hid hb.size
  replace W := Lib.hid (W.out.below hb)
  replace GG := Lib.hid (GG.out.below hb)
  have HB13 := Lib.hid (HB12.out.trans (hb.mono HB12.out.size))
  clear hb
  go_wp2_with fail
  refine (iTurnChanges_any fl0 z0v _ Z0.out.reads (fun i hi => by have := HS0.out.2 i hi; unfold maxLen; omega)).mono ?_
  rintro e w14 ⟨hhv, rfl, ho, hb⟩
  rw [HD.out] at ho
  have HH := Lib.hid (ho.w hb.size)
  clear ho
  have S14 : Hid (w13.heap.size ≤ w14.heap.size) := Lib.hid hb.size
  replace W := Lib.hid (W.out.below hb)
  replace GG := Lib.hid (GG.out.below hb)
  replace Z0 := Lib.hid (Z0.out.below hb)
  have HB14 := Lib.hid (HB13.out.trans (hb.mono HB13.out.size))
  clear hb
  clear Z0
  go_wp2_with fail
  refine (eqChangeS_same D hhv wv _ HH.out.reads W.out.reads (by have := HBD.out; omega)).mono ?_
  rintro e w15 ⟨rfl, hb⟩
  have S15 : Hid (w14.heap.size ≤ w15.heap.size) := Lib.hid hb.size
  replace W := Lib.hid (W.out.below hb)
  replace GG := Lib.hid (GG.out.below hb)
  replace HH := Lib.hid (HH.out.below hb)
  have HB15 := Lib.hid (HB14.out.trans (hb.mono HB14.out.size))
  clear hb
  go_wp2_with fail
  refine (heldC_x 1 D.length ggv _ GG.out (by omega) (by have := HBD.out; omega)).mono ?_
  rintro e w16 ⟨rfl, hb⟩
  rw [HM.out]
  have S16 : Hid (w15.heap.size ≤ w16.heap.size) := Lib.hid hb.size
  replace W := Lib.hid (W.out.below hb)
  replace GG := Lib.hid (GG.out.below hb)
  replace HH := Lib.hid (HH.out.below hb)
  have HB16 := Lib.hid (HB15.out.trans (hb.mono HB15.out.size))
  clear hb
  go_wp2_with fail
  go_ret
  exact ⟨rfl, HB16.out⟩
end Go.Proofs.Ytckfpneooknifaa
