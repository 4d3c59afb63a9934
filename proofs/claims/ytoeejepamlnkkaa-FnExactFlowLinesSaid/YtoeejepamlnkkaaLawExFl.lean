/- The walk of FnExactFlowLines. -/
import Derived.Test.YtoeejepamlnkkaaArgsP
import Derived.Test.YtoeejepamlnkkaaFlowS
namespace Go.Proofs.Ytoeejepamlnkkaa
open Go.RowKit
set_option maxRecDepth 100000


set_option maxHeartbeats 2000000 in
theorem fnExactFlowLines_walk (a : Option Addr) (len cap : Nat) (x : Int) (w : World) (h : IsParts w a len cap) (_hx : (Lit.int .i64 x).wf = true) :
    Calls Try.prog 9 #[.slice a len cap, .int .i64 x] w fun e w' => e = .returned (.bool true) ∧ Below w.heap.size w w' := by
  obtain ⟨ps, hr, hbig⟩ := h.reads
  have HR := Lib.hid hr
  have HBG := Lib.hid hbig
  clear h hr hbig
  go_enter Try.func9, Try.ntmps9
  go_wp2_with fail
  refine (szSS_any ps _ _ HR.out HBG.out).mono ?_
  rintro e w' ⟨⟨r, rfl, hres⟩, rfl⟩
  rcases hres with hneg | ⟨hpos, hsm, htot⟩
  · go_wp2_with fail
    go_ret
    exact ⟨rfl, Below.refl _ _⟩
  · have HS := Lib.hid hsm
    have HT := Lib.hid htot
    have HL1 : Hid (ps.length ≤ 2000000) := Lib.hid (by have := HS.out.len; omega)
    obtain ⟨D, HD⟩ : ∃ D, Hid (pl.flowR ps x = D) := ⟨_, Lib.hid rfl⟩
    obtain ⟨G, HG⟩ : ∃ G, Hid (pl.flowB ps x = G) := ⟨_, Lib.hid rfl⟩
    have hDl : Hid (D.length ≤ 1048576) := Lib.hid (by rw [← HD.out]; exact Nat.le_trans (pl.flowR_len ps x) (by omega))
    clear hsm htot
    go_wp2_with fail
    refine (toSS_any ps _ _ HR.out HS.out).mono ?_
    rintro e w1 ⟨v1, rfl, ho1, hb1⟩
    have HO1 := Lib.hid ho1
    have S1 := Lib.hid hb1.size
    have HB1 := Lib.hid hb1
    clear ho1 hb1
    go_wp2_with fail
    refine (sFlow_any ps x v1 _ HO1.out.reads HS.out).mono ?_
    rintro e w2 ⟨v4, rfl, ho4, hb2⟩
    rw [HD.out] at ho4
    rw [HG.out]
    have A2 := Lib.hid ho4
    have S2 := Lib.hid hb2.size
    have LT4 : Hid (∀ k, v4.ownBlock = some k → k < w2.heap.size) := Lib.hid (fun k hk => (World.ownsRow.lt ho4 k hk).2)
    have HB2 := Lib.hid (HB1.out.trans (hb2.mono S1.out))
    clear ho4 hb2
    go_wp2_with fail
    refine (toSS_any ps _ _ (HR.out.below (Nat.le_refl _) HB2.out) HS.out).mono ?_
    rintro e w3 ⟨v5, rfl, ⟨us5, ho5⟩, hb3⟩
    have B3 := Lib.hid ho5
    have S3 := Lib.hid hb3.size
    have LT5 : Hid (∀ i k, i < us5.length → (nthV us5 i).ownBlock = some k → k < w3.heap.size) := Lib.hid ho5.lt
    have A3 := Lib.hid (A2.out.below (Nat.le_refl _) hb3)
    have HB3 := Lib.hid (HB2.out.trans (hb3.mono HB2.out.size))
    clear ho5 hb3
    go_wp2_with fail
    refine (iFlow_any ps x v5 _ B3.out.reads HS.out).mono ?_
    rintro e w4 ⟨v6, rfl, ho6, hb4⟩
    rw [HD.out] at ho6
    rw [HG.out]
    have C4 := Lib.hid ho6
    have A4 := Lib.hid (A3.out.below (Nat.le_refl _) hb4)
    have B4 := Lib.hid (B3.out.below (Nat.le_refl _) hb4)
    have HB4 := Lib.hid (HB3.out.trans (hb4.mono HB3.out.size))
    have W4 := Lib.hid (Nat.le_trans S3.out hb4.size)
    clear ho6 hb4
    go_wp2_with fail
    refine (eqStringS_same D v6 v4 _ C4.out.reads A4.out.reads (by have := hDl.out; omega)).mono ?_
    rintro e w5 ⟨rfl, hb5⟩
    have A5 := Lib.hid (A4.out.below (Nat.le_refl _) hb5)
    have B5 := Lib.hid (B4.out.below (Nat.le_refl _) hb5)
    have C5 := Lib.hid (C4.out.below (Nat.le_refl _) hb5)
    have HB5 := Lib.hid (HB4.out.trans (hb5.mono HB4.out.size))
    have W5 := Lib.hid (Nat.le_trans W4.out hb5.size)
    clear hb5
    go_wp2_with fail
    refine (toSS_any ps _ _ (HR.out.below (Nat.le_refl _) HB5.out) HS.out).mono ?_
    rintro e w6 ⟨v7, rfl, ho7, hb6⟩
    have D6 := Lib.hid ho7
    have A6 := Lib.hid (A5.out.below (Nat.le_refl _) hb6)
    have B6 := Lib.hid (B5.out.below (Nat.le_refl _) hb6)
    have C6 := Lib.hid (C5.out.below (Nat.le_refl _) hb6)
    have HB6 := Lib.hid (HB5.out.trans (hb6.mono HB5.out.size))
    have W6 := Lib.hid (Nat.le_trans W5.out hb6.size)
    clear ho7 hb6
    go_wp2_with fail
    refine (eqSS_same ps v5 v7 _ B6.out.reads D6.out.reads (by have := HS.out.len; omega) (fun k hk => by have := HS.out.rows k hk; omega)).mono ?_
    rintro e w7 ⟨rfl, hb7⟩
    have A7 := Lib.hid (A6.out.below (Nat.le_refl _) hb7)
    have B7 := Lib.hid (B6.out.below (Nat.le_refl _) hb7)
    have C7 := Lib.hid (C6.out.below (Nat.le_refl _) hb7)
    have HB7 := Lib.hid (HB6.out.trans (hb7.mono HB6.out.size))
    have W7 : w2.heap.size ≤ w7.heap.size := Nat.le_trans W6.out hb7.size
    clear hb7 D6 A2 A3 A4 A5 A6 B3 B4 B5 B6 C4 C5 C6
    go_wp2_with fail
    refine (markSS_any w2.heap.size 1 v5 us5 ps _ B7.out (by omega) (by have := HT.out; omega) HL1.out).mono ?_
    rintro e w8 ⟨rfl, hm8, hw8⟩
    have A8 := Lib.hid (A7.out.wrote hw8 B7.out.2 (.inl LT4.out))
    have C8 := Lib.hid (C7.out.wrote hw8 B7.out.2 (.inr LT5.out))
    have HB8 := Lib.hid (HB7.out.trans ((hw8.belowOf B7.out.2 W7).mono (by have := S1.out; have := S2.out; omega)))
    clear hm8 hw8 W7
    obtain ⟨M, HM⟩ : ∃ M, Hid (1 + pl.totTo ps ps.length = M) := ⟨_, Lib.hid rfl⟩
    rw [HM.out]
    have hMneg : ¬ (M : Int) < 0 := by omega
    go_wp2_with fail
    refine (eqStringS_same D v6 v4 _ C8.out.reads A8.out.reads (by have := hDl.out; omega)).mono ?_
    rintro e w9 ⟨rfl, hb9⟩
    have A9 := Lib.hid (A8.out.below (Nat.le_refl _) hb9)
    have C9 := Lib.hid (C8.out.below (Nat.le_refl _) hb9)
    have HB9 := Lib.hid (HB8.out.trans (hb9.mono HB8.out.size))
    clear hb9
    go_wp2_with fail
    refine (markStringS_any w3.heap.size 1 v6 D _ C9.out (by omega) (by have := hDl.out; omega)).mono ?_
    rintro e w10 ⟨rfl, hm10, hg10⟩
    have A10 := Lib.hid (A9.out.marked (fun k hk => Nat.lt_of_lt_of_le (LT4.out k hk) S3.out) C9.out hg10)
    have C10 := Lib.hid hm10
    have HB10 := Lib.hid (HB9.out.trans (below_of_grown hg10 HB9.out.size (fun g hg => by have := (World.ownsRow.lt C9.out g hg).1; have := S1.out; have := S2.out; have := S3.out; omega)))
    clear hm10 hg10
    go_wp2_with fail
    refine (heldStringS_any 1 D.length v6 _ C10.out.reads (by omega) (by have := hDl.out; omega)).mono ?_
    rintro e w11 ⟨rfl, hb11⟩
    have A11 := Lib.hid (A10.out.below (Nat.le_refl _) hb11)
    have C11 := Lib.hid (C10.out.below (Nat.le_refl _) hb11)
    have HB11 := Lib.hid (HB10.out.trans (hb11.mono HB10.out.size))
    clear hb11
    go_wp2_with fail
    refine (toSS_any ps _ _ (HR.out.below (Nat.le_refl _) HB11.out) HS.out).mono ?_
    rintro e w12 ⟨v8, rfl, ho8, hb12⟩
    have D12 := Lib.hid ho8
    have A12 := Lib.hid (A11.out.below (Nat.le_refl _) hb12)
    have C12 := Lib.hid (C11.out.below (Nat.le_refl _) hb12)
    have HB12 := Lib.hid (HB11.out.trans (hb12.mono HB11.out.size))
    clear ho8 hb12
    go_wp2_with fail
    refine (iFlow_any ps x v8 _ D12.out.reads HS.out).mono ?_
    rintro e w13 ⟨v10, rfl, ho10, hb13⟩
    rw [HD.out] at ho10
    rw [HG.out]
    have D13 := Lib.hid ho10
    have A13 := Lib.hid (A12.out.below (Nat.le_refl _) hb13)
    have C13 := Lib.hid (C12.out.below (Nat.le_refl _) hb13)
    have HB13 := Lib.hid (HB12.out.trans (hb13.mono HB12.out.size))
    clear ho10 hb13
    go_wp2_with fail
    refine (eqStringS_same D v10 v4 _ D13.out.reads A13.out.reads (by have := hDl.out; omega)).mono ?_
    rintro e w14 ⟨rfl, hb14⟩
    have C14 := Lib.hid (C13.out.below (Nat.le_refl _) hb14)
    have HB14 := Lib.hid (HB13.out.trans (hb14.mono HB13.out.size))
    clear hb14
    go_wp2_with fail
    refine (heldStringS_any 1 D.length v6 _ C14.out.reads (by omega) (by have := hDl.out; omega)).mono ?_
    rintro e w15 ⟨rfl, hb15⟩
    have HB15 := Lib.hid (HB14.out.trans (hb15.mono HB14.out.size))
    clear hb15
    go_wp2_with fail
    go_ret
    exact ⟨rfl, HB15.out⟩
end Go.Proofs.Ytoeejepamlnkkaa
