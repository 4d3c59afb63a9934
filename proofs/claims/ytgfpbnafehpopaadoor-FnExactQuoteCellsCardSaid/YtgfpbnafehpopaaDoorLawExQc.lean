/- The walk of FnExactQuoteCells. -/
import Derived.Test.YtgfpbnafehpopaaDoorArgs
import Derived.Test.YtgfpbnafehpopaaDoorQuotC
import Derived.Test.YtgfpbnafehpopaaDoorMaxI
import Derived.Test.YtgfpbnafehpopaaDoorLawExW
namespace Go.Proofs.YtgfpbnafehpopaaDoor
open Go.RowKit
set_option maxRecDepth 100000

set_option maxHeartbeats 1000000 in
theorem fnExactQuoteCells_walk (a : Option Addr) (len cap : Nat) (ss : List ByteArray) (w : World) (h : IsStrs w a len cap ss) (hm : MaxI w) :
    Calls Tryd.prog 8 #[.slice a len cap] w fun e w' => e = .returned (.bool true) ∧ Below w.heap.size w w' := by
  obtain ⟨l, hr, hlen, hsz⟩ : ∃ l, RStrs w (.slice a len cap) l ∧ Hid (l.length ≤ maxLen) ∧ Hid (∀ i, i < l.length → (nth l i).size ≤ maxLen) := by
    obtain ⟨h1, h2, h3, h4⟩ := h.reads
    exact ⟨_, h1, Lib.hid (by rw [h2]; exact h3), Lib.hid (by rw [h2]; exact h4)⟩
  have HR := Lib.hid hr
  have HMX := Lib.hid hm
  clear h hr hm
  go_enter Tryd.func8, Tryd.ntmps8
  go_wp2_with fail
  refine (szStringS_any l _ _ HR.out hlen.out hsz.out).mono ?_
  rintro e w' ⟨⟨r, rfl, hres⟩, rfl⟩
  rcases hres with hneg | ⟨hpos, hsm⟩
  · go_wp2_with fail
    go_ret
    exact ⟨rfl, Below.refl _ _⟩
  · have HS := Lib.hid hsm
    clear hsm
    go_wp2_with fail
    refine (toStringS_any l _ _ HR.out HS.out.1).mono ?_
    rintro e w1 ⟨v1, rfl, ho1, hb1⟩
    have HO1 := Lib.hid ho1
    have HB1 := Lib.hid hb1
    clear ho1 hb1
    go_wp2_with fail
    refine (sQuoteCells_any l v1 _ HO1.out.lreads HS.out.1 HS.out.2).mono ?_
    rintro e w1b ⟨rfl, hb1b⟩
    replace HB1 := Lib.hid (HB1.out.trans (hb1b.mono HB1.out.size))
    clear hb1b
    obtain ⟨m, HM⟩ : ∃ m, Hid (pl.quoR l = m) := ⟨_, Lib.hid rfl⟩
    rw [HM.out]
    go_wp2_with fail
    refine (toStringS_any l _ _ (HR.out.below (Nat.le_refl _) HB1.out) HS.out.1).mono ?_
    rintro e w2 ⟨v2, rfl, ho2, hb2⟩
    have HO2 := Lib.hid ho2
    have HB2 := Lib.hid (HB1.out.trans (hb2.mono HB1.out.size))
    clear ho2 hb2
    go_wp2_with fail
    refine (iQuoteCells_any l v2 _ HO2.out.reads HS.out.1 HS.out.2 (HMX.out.below (Nat.le_refl _) HB2.out)).mono ?_
    rintro e w3 ⟨rfl, hb3⟩
    rw [HM.out]
    have HO3 := Lib.hid (HO2.out.below (Nat.le_refl _) hb3)
    have HB3 := Lib.hid (HB2.out.trans (hb3.mono HB2.out.size))
    clear hb3
    go_wp2_with fail
    refine (toStringS_any l _ _ (HR.out.below (Nat.le_refl _) HB3.out) HS.out.1).mono ?_
    rintro e w4 ⟨v4, rfl, ho4, hb4⟩
    have HO4 := Lib.hid ho4
    have HO5 := Lib.hid (HO3.out.below (Nat.le_refl _) hb4)
    have HB4 := Lib.hid (HB3.out.trans (hb4.mono HB3.out.size))
    clear ho4 hb4
    go_wp2_with fail
    refine (eqStringS_same l v2 v4 _ HO5.out.reads HO4.out.reads (by have := HS.out.1; omega)).mono ?_
    rintro e w5 ⟨rfl, hb5⟩
    have HB5 := Lib.hid (HB4.out.trans (hb5.mono HB4.out.size))
    clear hb5
    go_wp2_with fail
    go_ret
    exact ⟨rfl, HB5.out⟩
end Go.Proofs.YtgfpbnafehpopaaDoor
