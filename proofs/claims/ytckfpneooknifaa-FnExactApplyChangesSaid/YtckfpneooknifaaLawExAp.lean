/- The walk of FnExactApplyChanges. -/
import Derived.Test.YtckfpneooknifaaApC
import Derived.Test.YtckfpneooknifaaMarkC
import Derived.Test.YtckfpneooknifaaSpan
import Derived.Test.YtckfpneooknifaaArgsP
namespace Go.Proofs.Ytckfpneooknifaa
open Go.RowKit
set_option maxRecDepth 100000
set_option linter.unusedVariables false

set_option maxHeartbeats 8000000 in
theorem fnExactApplyChanges_walk (a0 : Option Addr) (len0 cap0 : Nat) (ss0 : List ByteArray) (a1 : Option Addr) (len1 cap1 : Nat) (w : World) (h0 : IsStrs w a0 len0 cap0 ss0) (h1 : IsChs w a1 len1 cap1) :
    Calls Try.prog 11 #[.slice a0 len0 cap0, .slice a1 len1 cap1] w fun e w' => e = .returned (.bool true) ∧ Below w.heap.size w w' := by
  obtain ⟨l0, hr0, HLN0, HSZ0⟩ : ∃ l, RStrs w (.slice a0 len0 cap0) l ∧ Hid (l.length ≤ maxLen) ∧ Hid (∀ i, i < l.length → (nth l i).size ≤ maxLen) := by
    obtain ⟨h1, h2, h3, h4⟩ := h0.reads
    exact ⟨_, h1, Lib.hid (by rw [h2]; exact h3), Lib.hid (by rw [h2]; exact h4)⟩
  have HR0 := Lib.hid hr0
  clear h0 hr0
  obtain ⟨fl1, hr1, HLN1, HSZ1⟩ : ∃ l, RCh w (.slice a1 len1 cap1) l ∧ Hid (l.length ≤ maxLen) ∧ Hid (∀ i, i < l.length → (pl.nthH l i).2.size ≤ maxLen) := by
    obtain ⟨l, h1, h2, h3, h4⟩ := h1.reads
    exact ⟨l, h1, Lib.hid (by rw [h2]; exact h3), Lib.hid (fun i hi => (h4 i hi).2)⟩
  have HR1 := Lib.hid hr1
  clear h1 hr1
  go_enter Try.func11, Try.ntmps11
  go_wp2_with fail
  refine (szStringQ_any l0 _ 1048576 _ HR0.out (Nat.le_refl _) HLN0.out HSZ0.out).mono ?_
  rintro e w' ⟨⟨r, rfl, hres⟩, rfl⟩
  rcases hres with hneg | ⟨hpos, hle, hsm⟩
  · go_wp2_with fail
    go_ret
    exact ⟨rfl, Below.refl _ _⟩
  have HS0 := Lib.hid hsm
  clear hsm
  obtain ⟨q, rfl⟩ := Int.eq_ofNat_of_zero_le hpos
  have hq : q ≤ 1048576 := by omega
  have hq0 : ¬ (q : Int) < 0 := by omega
  go_wp2_with fail
  refine (szChangeS_any fl1 _ q _ HR1.out hq HLN1.out HSZ1.out).mono ?_
  rintro e w1 ⟨⟨r, rfl, hres⟩, hb⟩
  have S1 : Hid (w.heap.size ≤ w1.heap.size) := Lib.hid hb.size
  have HB1 := Lib.hid hb
  clear hb
  rcases hres with hneg | ⟨hpos, hsm⟩
  · go_wp2_with fail
    go_ret
    exact ⟨rfl, HB1.out⟩
  have HS1 := Lib.hid hsm
  clear hsm
  obtain ⟨r, rfl⟩ := Int.eq_ofNat_of_zero_le hpos
  have hr0 : ¬ (r : Int) < 0 := by omega
  obtain ⟨D, HD⟩ : ∃ D, Hid (pl.appD l0 fl1 = D) := ⟨_, Lib.hid rfl⟩
  have HBD := Lib.hid ((show (pl.appD l0 fl1).length ≤ 1000000 from Nat.le_trans (pl.appD_len l0 fl1) (by omega)))
  rw [HD.out] at HBD
  obtain ⟨G, HG⟩ : ∃ G, Hid (pl.appG l0 fl1 = G) := ⟨_, Lib.hid rfl⟩
  go_wp2_with fail
  refine (toStringS_any l0 _ _ (HR0.out.below (Nat.le_refl _) HB1.out) HS0.out.1).mono ?_
  rintro e w2 ⟨a0v, rfl, ho, hb⟩
  have A0 := Lib.hid (ho.x hb.size)
  clear ho
  have S2 : Hid (w1.heap.size ≤ w2.heap.size) := Lib.hid hb.size
  have HB2 := Lib.hid (HB1.out.trans (hb.mono HB1.out.size))
  clear hb
  go_wp2_with fail
  refine (toChangeS_any fl1 _ _ (HR1.out.below (Nat.le_refl _) HB2.out) HS1.out.1).mono ?_
  rintro e w3 ⟨a1v, rfl, ho, hb⟩
  have A1 := Lib.hid (ho.w hb.size)
  clear ho
  have S3 : Hid (w2.heap.size ≤ w3.heap.size) := Lib.hid hb.size
  replace A0 := Lib.hid (A0.out.below hb)
  have HB3 := Lib.hid (HB2.out.trans (hb.mono HB2.out.size))
  clear hb
  go_wp2_with fail
  refine (sApplyChanges_any l0 fl1 a0v a1v _ A0.out.reads A1.out.reads (by have := HS0.out.1; unfold maxLen; omega) (fun i hi => by have := HS0.out.2 i hi; unfold maxLen; omega) (by have := HS1.out.1; unfold maxLen; omega) (fun i hi => by have := HS1.out.2 i hi; unfold maxLen; omega)).mono ?_
  rintro e w4 ⟨wv, rfl, ho, hb⟩
  rw [HD.out] at ho
  rw [HG.out]
  have W := Lib.hid (ho.x hb.size)
  clear ho
  have S4 : Hid (w3.heap.size ≤ w4.heap.size) := Lib.hid hb.size
  replace A0 := Lib.hid (A0.out.below hb)
  replace A1 := Lib.hid (A1.out.below hb)
  have HB4 := Lib.hid (HB3.out.trans (hb.mono HB3.out.size))
  clear hb
  clear A0
  clear A1
  go_wp2_with fail
  refine (toStringS_any l0 _ _ (HR0.out.below (Nat.le_refl _) HB4.out) HS0.out.1).mono ?_
  rintro e w5 ⟨x0v, rfl, ho, hb⟩
  have X0 := Lib.hid (ho.x hb.size)
  clear ho
  have S5 : Hid (w4.heap.size ≤ w5.heap.size) := Lib.hid hb.size
  replace W := Lib.hid (W.out.below hb)
  have HB5 := Lib.hid (HB4.out.trans (hb.mono HB4.out.size))
  clear hb
  go_wp2_with fail
  refine (toChangeS_any fl1 _ _ (HR1.out.below (Nat.le_refl _) HB5.out) HS1.out.1).mono ?_
  rintro e w6 ⟨x1v, rfl, ho, hb⟩
  have X1 := Lib.hid (ho.w hb.size)
  clear ho
  have S6 : Hid (w5.heap.size ≤ w6.heap.size) := Lib.hid hb.size
  replace W := Lib.hid (W.out.below hb)
  replace X0 := Lib.hid (X0.out.below hb)
  have HB6 := Lib.hid (HB5.out.trans (hb.mono HB5.out.size))
  clear hb
  go_wp2_with fail
  refine (iApplyChanges_any l0 fl1 x0v x1v _ X0.out.lreads X1.out.reads (by have := HS0.out.1; unfold maxLen; omega) (fun i hi => by have := HS0.out.2 i hi; unfold maxLen; omega) (fun i hi => by have := HS1.out.2 i hi; unfold maxLen; omega)).mono ?_
  rintro e w7 ⟨ggv, rfl, ho, hb⟩
  rw [HD.out] at ho
  rw [HG.out]
  have GG := Lib.hid (ho.x hb.size)
  clear ho
  have S7 : Hid (w6.heap.size ≤ w7.heap.size) := Lib.hid hb.size
  replace W := Lib.hid (W.out.below hb)
  replace X0 := Lib.hid (X0.out.below hb)
  replace X1 := Lib.hid (X1.out.below hb)
  have HB7 := Lib.hid (HB6.out.trans (hb.mono HB6.out.size))
  clear hb
  go_wp2_with fail
  refine (eqStringS_same D ggv wv _ GG.out.reads W.out.reads (by have := HBD.out; omega)).mono ?_
  rintro e w8 ⟨rfl, hb⟩
  have S8 : Hid (w7.heap.size ≤ w8.heap.size) := Lib.hid hb.size
  replace W := Lib.hid (W.out.below hb)
  replace X0 := Lib.hid (X0.out.below hb)
  replace X1 := Lib.hid (X1.out.below hb)
  replace GG := Lib.hid (GG.out.below hb)
  have HB8 := Lib.hid (HB7.out.trans (hb.mono HB7.out.size))
  clear hb
  go_wp2_with fail
  refine (toStringS_any l0 _ _ (HR0.out.below (Nat.le_refl _) HB8.out) HS0.out.1).mono ?_
  rintro e w9 ⟨y0v, rfl, ho, hb⟩
  have Y0 := Lib.hid (ho.x hb.size)
  clear ho
  have S9 : Hid (w8.heap.size ≤ w9.heap.size) := Lib.hid hb.size
  replace W := Lib.hid (W.out.below hb)
  replace X0 := Lib.hid (X0.out.below hb)
  replace X1 := Lib.hid (X1.out.below hb)
  replace GG := Lib.hid (GG.out.below hb)
  have HB9 := Lib.hid (HB8.out.trans (hb.mono HB8.out.size))
  clear hb
  go_wp2_with fail
  refine (eqStringS_same l0 x0v y0v _ X0.out.reads Y0.out.reads (by have := HS0.out.1; omega)).mono ?_
  rintro e w10 ⟨rfl, hb⟩
  have S10 : Hid (w9.heap.size ≤ w10.heap.size) := Lib.hid hb.size
  replace W := Lib.hid (W.out.below hb)
  replace X0 := Lib.hid (X0.out.below hb)
  replace X1 := Lib.hid (X1.out.below hb)
  replace GG := Lib.hid (GG.out.below hb)
  replace Y0 := Lib.hid (Y0.out.below hb)
  have HB10 := Lib.hid (HB9.out.trans (hb.mono HB9.out.size))
  clear hb
  clear Y0
  go_wp2_with fail
  refine (toChangeS_any fl1 _ _ (HR1.out.below (Nat.le_refl _) HB10.out) HS1.out.1).mono ?_
  rintro e w11 ⟨y1v, rfl, ho, hb⟩
  have Y1 := Lib.hid (ho.w hb.size)
  clear ho
  have S11 : Hid (w10.heap.size ≤ w11.heap.size) := Lib.hid hb.size
  replace W := Lib.hid (W.out.below hb)
  replace X0 := Lib.hid (X0.out.below hb)
  replace X1 := Lib.hid (X1.out.below hb)
  replace GG := Lib.hid (GG.out.below hb)
  have HB11 := Lib.hid (HB10.out.trans (hb.mono HB10.out.size))
  clear hb
  go_wp2_with fail
  refine (eqChangeS_same fl1 x1v y1v _ X1.out.reads Y1.out.reads (by have := HS1.out.1; omega)).mono ?_
  rintro e w12 ⟨rfl, hb⟩
  have S12 : Hid (w11.heap.size ≤ w12.heap.size) := Lib.hid hb.size
  replace W := Lib.hid (W.out.below hb)
  replace X0 := Lib.hid (X0.out.below hb)
  replace X1 := Lib.hid (X1.out.below hb)
  replace GG := Lib.hid (GG.out.below hb)
  replace Y1 := Lib.hid (Y1.out.below hb)
  have HB12 := Lib.hid (HB11.out.trans (hb.mono HB11.out.size))
  clear hb
  clear Y1
  go_wp2_with fail
  refine (markS_x _ _ 1 x0v l0 _ X0.out (by skip; omega) (by have := HS0.out.1; omega)).mono ?_
  rintro e w13 ⟨rfl, hm, ht⟩
  obtain ⟨K0, HK0⟩ : ∃ K, Hid (1 + l0.length = K) := ⟨_, Lib.hid rfl⟩
  rw [HK0.out]
  have hKn0 : ¬ (K0 : Int) < 0 := by omega
  have hKb0 : K0 ≤ 4000000 := by rw [← HK0.out]; have := HS0.out.1; omega
  have S13 : Hid (w12.heap.size ≤ w13.heap.size) := Lib.hid ht.size
  replace W := Lib.hid (W.out.touch ht (by have := S1.out; have := S2.out; have := S3.out; have := S4.out; have := S5.out; have := S6.out; have := S7.out; have := S8.out; have := S9.out; have := S10.out; have := S11.out; have := S12.out; have := S13.out; omega))
  replace X1 := Lib.hid (X1.out.touch ht (by have := S1.out; have := S2.out; have := S3.out; have := S4.out; have := S5.out; have := S6.out; have := S7.out; have := S8.out; have := S9.out; have := S10.out; have := S11.out; have := S12.out; have := S13.out; omega))
  replace GG := Lib.hid (GG.out.touch ht (by have := S1.out; have := S2.out; have := S3.out; have := S4.out; have := S5.out; have := S6.out; have := S7.out; have := S8.out; have := S9.out; have := S10.out; have := S11.out; have := S12.out; have := S13.out; omega))
  have HB13 := Lib.hid (HB12.out.trans (ht.toBelow (by have := S1.out; have := S2.out; have := S3.out; have := S4.out; have := S5.out; have := S6.out; have := S7.out; have := S8.out; have := S9.out; have := S10.out; have := S11.out; have := S12.out; have := S13.out; omega) (by have := S1.out; have := S2.out; have := S3.out; have := S4.out; have := S5.out; have := S6.out; have := S7.out; have := S8.out; have := S9.out; have := S10.out; have := S11.out; have := S12.out; have := S13.out; omega)))
  clear ht hm
  clear X0
  go_wp2_with fail
  refine (markC_x _ _ K0 x1v fl1 _ X1.out (by have := HK0.out; omega) (by have := HK0.out; have := HS1.out.1; omega)).mono ?_
  rintro e w14 ⟨rfl, hm, ht⟩
  obtain ⟨K1, HK1⟩ : ∃ K, Hid (K0 + 2 * fl1.length = K) := ⟨_, Lib.hid rfl⟩
  rw [HK1.out]
  have hKn1 : ¬ (K1 : Int) < 0 := by omega
  have hKb1 : K1 ≤ 8000000 := by rw [← HK1.out]; have := HK0.out; have := hKb0; have := HS1.out.1; omega
  have S14 : Hid (w13.heap.size ≤ w14.heap.size) := Lib.hid ht.size
  replace W := Lib.hid (W.out.touch ht (by have := S1.out; have := S2.out; have := S3.out; have := S4.out; have := S5.out; have := S6.out; have := S7.out; have := S8.out; have := S9.out; have := S10.out; have := S11.out; have := S12.out; have := S13.out; have := S14.out; omega))
  replace GG := Lib.hid (GG.out.touch ht (by have := S1.out; have := S2.out; have := S3.out; have := S4.out; have := S5.out; have := S6.out; have := S7.out; have := S8.out; have := S9.out; have := S10.out; have := S11.out; have := S12.out; have := S13.out; have := S14.out; omega))
  have HB14 := Lib.hid (HB13.out.trans (ht.toBelow (by have := S1.out; have := S2.out; have := S3.out; have := S4.out; have := S5.out; have := S6.out; have := S7.out; have := S8.out; have := S9.out; have := S10.out; have := S11.out; have := S12.out; have := S13.out; have := S14.out; omega) (by have := S1.out; have := S2.out; have := S3.out; have := S4.out; have := S5.out; have := S6.out; have := S7.out; have := S8.out; have := S9.out; have := S10.out; have := S11.out; have := S12.out; have := S13.out; have := S14.out; omega)))
  clear ht hm
  clear X1
  go_wp2_with fail
  refine (eqStringS_same D ggv wv _ GG.out.reads W.out.reads (by have := HBD.out; omega)).mono ?_
  rintro e w15 ⟨rfl, hb⟩
  have S15 : Hid (w14.heap.size ≤ w15.heap.size) := Lib.hid hb.size
  replace W := Lib.hid (W.out.below hb)
  replace GG := Lib.hid (GG.out.below hb)
  have HB15 := Lib.hid (HB14.out.trans (hb.mono HB14.out.size))
  clear hb
  go_wp2_with fail
  refine (markS_x _ _ 1 ggv D _ GG.out (by omega) (by have := HBD.out; omega)).mono ?_
  rintro e w16 ⟨rfl, hm, ht⟩
  obtain ⟨M, HM⟩ : ∃ M, Hid (1 + D.length = M) := ⟨_, Lib.hid rfl⟩
  rw [HM.out]
  have hMn : ¬ (M : Int) < 0 := by omega
  have S16 : Hid (w15.heap.size ≤ w16.heap.size) := Lib.hid ht.size
  replace W := Lib.hid (W.out.touch ht (by have := S1.out; have := S2.out; have := S3.out; have := S4.out; have := S5.out; have := S6.out; have := S7.out; have := S8.out; have := S9.out; have := S10.out; have := S11.out; have := S12.out; have := S13.out; have := S14.out; have := S15.out; have := S16.out; omega))
  have HB16 := Lib.hid (HB15.out.trans (ht.toBelow (by have := S1.out; have := S2.out; have := S3.out; have := S4.out; have := S5.out; have := S6.out; have := S7.out; have := S8.out; have := S9.out; have := S10.out; have := S11.out; have := S12.out; have := S13.out; have := S14.out; have := S15.out; have := S16.out; omega) (by have := S1.out; have := S2.out; have := S3.out; have := S4.out; have := S5.out; have := S6.out; have := S7.out; have := S8.out; have := S9.out; have := S10.out; have := S11.out; have := S12.out; have := S13.out; have := S14.out; have := S15.out; have := S16.out; omega)))
  replace GG := Lib.hid hm
  clear ht hm
  go_wp2_with fail
  refine (heldS_x 1 D.length ggv _ GG.out (by omega) (by have := HBD.out; omega)).mono ?_
  rintro e w17 ⟨rfl, hb⟩
  rw [HM.out]
  have S17 : Hid (w16.heap.size ≤ w17.heap.size) := Lib.hid hb.size
  replace W := Lib.hid (W.out.below hb)
  replace GG := Lib.hid (GG.out.below hb)
  have HB17 := Lib.hid (HB16.out.trans (hb.mono HB16.out.size))
  clear hb
  go_wp2_with fail
  refine (toStringS_any l0 _ _ (HR0.out.below (Nat.le_refl _) HB17.out) HS0.out.1).mono ?_
  rintro e w18 ⟨z0v, rfl, ho, hb⟩
  have Z0 := Lib.hid (ho.x hb.size)
  clear ho
  have S18 : Hid (w17.heap.size ≤ w18.heap.size) := Lib.hid hb.size
  replace W := Lib.hid (W.out.below hb)
  replace GG := Lib.hid (GG.out.below hb)
  have HB18 := Lib.hid (HB17.out.trans (hb.mono HB17.out.size))
  clear hb
  go_wp2_with fail
  refine (toChangeS_any fl1 _ _ (HR1.out.below (Nat.le_refl _) HB18.out) HS1.out.1).mono ?_
  rintro e w19 ⟨z1v, rfl, ho, hb⟩
  have Z1 := Lib.hid (ho.w hb.size)
  clear ho
  have S19 : Hid (w18.heap.size ≤ w19.heap.size) := Lib.hid hb.size
  replace W := Lib.hid (W.out.below hb)
  replace GG := Lib.hid (GG.out.below hb)
  replace Z0 := Lib.hid (Z0.out.below hb)
  have HB19 := Lib.hid (HB18.out.trans (hb.mono HB18.out.size))
  clear hb
  go_wp2_with fail
  refine (iApplyChanges_any l0 fl1 z0v z1v _ Z0.out.lreads Z1.out.reads (by have := HS0.out.1; unfold maxLen; omega) (fun i hi => by have := HS0.out.2 i hi; unfold maxLen; omega) (fun i hi => by have := HS1.out.2 i hi; unfold maxLen; omega)).mono ?_
  rintro e w20 ⟨hhv, rfl, ho, hb⟩
  rw [HD.out] at ho
  rw [HG.out]
  have HH := Lib.hid (ho.x hb.size)
  clear ho
  have S20 : Hid (w19.heap.size ≤ w20.heap.size) := Lib.hid hb.size
  replace W := Lib.hid (W.out.below hb)
  replace GG := Lib.hid (GG.out.below hb)
  replace Z0 := Lib.hid (Z0.out.below hb)
  replace Z1 := Lib.hid (Z1.out.below hb)
  have HB20 := Lib.hid (HB19.out.trans (hb.mono HB19.out.size))
  clear hb
  clear Z0
  clear Z1
  go_wp2_with fail
  refine (eqStringS_same D hhv wv _ HH.out.reads W.out.reads (by have := HBD.out; omega)).mono ?_
  rintro e w21 ⟨rfl, hb⟩
  have S21 : Hid (w20.heap.size ≤ w21.heap.size) := Lib.hid hb.size
  replace W := Lib.hid (W.out.below hb)
  replace GG := Lib.hid (GG.out.below hb)
  replace HH := Lib.hid (HH.out.below hb)
  have HB21 := Lib.hid (HB20.out.trans (hb.mono HB20.out.size))
  clear hb
  go_wp2_with fail
  refine (heldS_x 1 D.length ggv _ GG.out (by omega) (by have := HBD.out; omega)).mono ?_
  rintro e w22 ⟨rfl, hb⟩
  rw [HM.out]
  have S22 : Hid (w21.heap.size ≤ w22.heap.size) := Lib.hid hb.size
  replace W := Lib.hid (W.out.below hb)
  replace GG := Lib.hid (GG.out.below hb)
  replace HH := Lib.hid (HH.out.below hb)
  have HB22 := Lib.hid (HB21.out.trans (hb.mono HB21.out.size))
  clear hb
  go_wp2_with fail
  go_ret
  exact ⟨rfl, HB22.out⟩
end Go.Proofs.Ytckfpneooknifaa
