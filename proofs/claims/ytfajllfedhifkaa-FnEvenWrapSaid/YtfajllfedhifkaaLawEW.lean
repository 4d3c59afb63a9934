/- The walk of FnEvenWrap. -/
import Derived.Test.YtfajllfedhifkaaDrawW
import Derived.Test.YtfajllfedhifkaaEvenS
import Derived.Test.YtfajllfedhifkaaPlainH2
import Derived.Test.YtfajllfedhifkaaLeastC
namespace Go.Proofs.Ytfajllfedhifkaa
open Go.RowKit
set_option maxRecDepth 100000

set_option maxHeartbeats 4000000 in
theorem fnEvenWrap_walk (a : Option Addr) (len cap : Nat) (zs : List Int) (w : World) (hr : IsRow .u8 w a len cap zs) :
    Calls Try.prog 5 #[.slice a len cap] w fun e w' => e = .returned (.bool true) ∧ Below w.heap.size w w' := by
  have hlen := row_len hr
  by_cases hb : 1048576 < len
  · go_enter Try.func5, Try.ntmps5
    go_wp2
    go_ret
    exact ⟨rfl, Below.refl _ _⟩
  · go_enter Try.func5, Try.ntmps5
    go_wp2_with fail
    refine (dEvenWrap_any a len cap zs _ hr).mono ?_
    rintro e w1 ⟨v, l, x, rfl, ho, hl, hf, hx0, hx1, hb1⟩
    have HLN : Hid (l.length ≤ maxLen) := Lib.hid (by unfold maxLen; omega)
    have HL10 := Lib.hid hl
    have HSZ : Hid (∀ i, i < l.length → (nth l i).size ≤ maxLen) := Lib.hid (fun i hi => by have := hf i hi; unfold maxLen; omega)
    have HO1 := Lib.hid ho
    have HB1 := Lib.hid hb1
    clear ho hb1 hf hl
    obtain ⟨E, hE⟩ : ∃ E, Hid (pl.evenR l x = E) := ⟨_, Lib.hid rfl⟩
    have hEl : Hid (E.length ≤ 10) := Lib.hid (by rw [← hE.out]; exact Nat.le_trans (pl.evenR_len l x) HL10.out)
    go_wp2_with fail
    refine (iEvenWrap_any l x _ _ HO1.out.lreads HLN.out HSZ.out).mono ?_
    rintro e w2 ⟨v2, rfl, ho2, hb2⟩
    rw [hE.out] at ho2
    have HO2 := Lib.hid (HO1.out.below (Nat.le_refl _) hb2)
    have HP2 := Lib.hid ho2
    have HB2 := Lib.hid (HB1.out.trans (hb2.mono HB1.out.size))
    clear hb2 ho2
    obtain ⟨ok, hok⟩ : ∃ ok, Hid (pl.fitA l x = ok) := ⟨_, Lib.hid rfl⟩
    rw [hok.out]
    go_wp2_with fail
    refine (sEvenWrap_any l x _ _ HO2.out.lreads HLN.out HSZ.out).mono ?_
    rintro e w3 ⟨v3, rfl, ho3, hb3⟩
    rw [hE.out] at ho3
    have HO3 := Lib.hid (HO2.out.below (Nat.le_refl _) hb3)
    have HP3 := Lib.hid (HP2.out.below (Nat.le_refl _) hb3)
    have HQ3 := Lib.hid ho3
    have HB3 := Lib.hid (HB2.out.trans (hb3.mono HB2.out.size))
    clear hb3 ho3
    rw [hok.out]
    go_wp2_with fail
    refine (equalTexts_eq E v2 v3 _ HP3.out.reads HQ3.out.reads (by have := hEl.out; omega)).mono ?_
    rintro e w4 ⟨rfl, hb4⟩
    have HO4 := Lib.hid (HO3.out.below (Nat.le_refl _) hb4)
    have HP4 := Lib.hid (HP3.out.below (Nat.le_refl _) hb4)
    have HQ4 := Lib.hid (HQ3.out.below (Nat.le_refl _) hb4)
    have HB4 := Lib.hid (HB3.out.trans (hb4.mono HB3.out.size))
    clear hb4
    cases ok with
    | false =>
      go_wp2_with fail
      refine (equalTexts_eq E v2 v3 _ HP4.out.reads HQ4.out.reads (by have := hEl.out; omega)).mono ?_
      rintro e w5 ⟨rfl, hb5⟩
      have HB5 := Lib.hid (HB4.out.trans (hb5.mono HB4.out.size))
      clear hb5
      go_wp2_with fail
      go_ret
      exact ⟨by first | rfl | simp, HB5.out⟩
    | true =>
      obtain ⟨b, hbest, hEb⟩ := pl.evenR_best hok.out
      rw [hE.out] at hEb
      have hp := pl.fitA_parts hok.out
      have hgr := pl.greedy_way (pl.fitA_short hok.out)
      have hall := Lib.hid (pl.allFit_of (pl.fitA_short hok.out))
      have HV := Lib.hid hp.2.1
      have hxb := hp.2.2
      have h9 : Hid (l.length ≤ 9) := Lib.hid (pl.vWords_parts HV.out).1
      have h12 := Lib.hid (pl.words_12 HV.out)
      have HBE := Lib.hid hbest
      have HEB := Lib.hid hEb
      have HGR := Lib.hid hgr
      obtain ⟨C, hC⟩ : ∃ C, Hid (pl.costG x b = C) := ⟨_, Lib.hid rfl⟩
      obtain ⟨C2, hC2⟩ : ∃ C2, Hid (pl.costG x (pl.greedy x l l.length) = C2) := ⟨_, Lib.hid rfl⟩
      have hCC : C ≤ C2 := by
        rw [← hC.out, ← hC2.out]
        rcases hbest.2 _ hgr with h | ⟨h, _⟩ <;> omega
      have hcE : Hid (pl.costR E x = C) := Lib.hid (by rw [hEb, pl.cost_lines hbest.1 hok.out, hC.out])
      have hcW : Hid (pl.costR (pl.wrapR l x) x = C2) := Lib.hid (by
        rw [pl.wrapR_yes hok.out, show pl.wrapB x l = (pl.greedy x l l.length).map pl.jline from rfl, pl.cost_lines hgr hok.out, hC2.out])
      have hlF : Hid (pl.lF x l = C) := Lib.hid (by rw [← pl.best_cost hall.out hbest, hC.out])
      have hEs : Hid (∀ i, i < E.length → (nth E i).size ≤ maxLen) := Lib.hid (fun i hi => by
        rw [hEb] at hi ⊢
        have := pl.way_lines_le hbest.1 i hi
        unfold maxLen; omega)
      have hWs : Hid (∀ i, i < (pl.wrapR l x).length → (nth (pl.wrapR l x) i).size ≤ maxLen) := Lib.hid (by
        rw [pl.wrapR_yes hok.out, show pl.wrapB x l = (pl.greedy x l l.length).map pl.jline from rfl]
        intro i hi
        have := pl.way_lines_le hgr i hi
        unfold maxLen; omega)
      clear hp hbest hEb hgr
      go_wp2_with fail
      refine (iWrapWords_any l x v _ HO4.out.lreads HLN.out HSZ.out).mono ?_
      rintro e w5 ⟨v5, rfl, ho5, hb5⟩
      rw [hok.out]
      have HO5 := Lib.hid (HO4.out.below (Nat.le_refl _) hb5)
      have HP5 := Lib.hid (HP4.out.below (Nat.le_refl _) hb5)
      have HW5 := Lib.hid ho5
      have HB5 := Lib.hid (HB4.out.trans (hb5.mono HB4.out.size))
      clear hb5 ho5
      go_wp2_with fail
      refine (iCostOf_any E x v2 _ HP5.out.reads (by have := hEl.out; unfold maxLen; omega) hEs.out).mono ?_
      rintro e w6 ⟨rfl, hb6⟩
      rw [hcE.out]
      have HO6 := Lib.hid (HO5.out.below (Nat.le_refl _) hb6)
      have HP6 := Lib.hid (HP5.out.below (Nat.le_refl _) hb6)
      have HW6 := Lib.hid (HW5.out.below (Nat.le_refl _) hb6)
      have HB6 := Lib.hid (HB5.out.trans (hb6.mono HB5.out.size))
      clear hb6
      go_wp2_with fail
      refine (allWords_any b v2 _ (by rw [← HEB.out]; exact HP6.out.reads) HBE.out.1.2.1 (by rw [HBE.out.1.1]; exact pl.vWords_mem HV.out) (by rw [HBE.out.1.1]; exact h9.out) (fun g hg => by have := pl.way_sz HBE.out.1 g hg; omega)).mono ?_
      rintro e w7 ⟨v7, rfl, ho7, hb7⟩
      rw [HBE.out.1.1] at ho7
      have HA7 := Lib.hid ho7
      have HO7 := Lib.hid (HO6.out.below (Nat.le_refl _) hb7)
      have HP7 := Lib.hid (HP6.out.below (Nat.le_refl _) hb7)
      have HW7 := Lib.hid (HW6.out.below (Nat.le_refl _) hb7)
      have HB7 := Lib.hid (HB6.out.trans (hb7.mono HB6.out.size))
      clear hb7 ho7
      go_wp2_with fail
      refine (equalTexts_eq l v7 v _ HA7.out.reads HO7.out.reads (by have := h9.out; omega)).mono ?_
      rintro e w8 ⟨rfl, hb8⟩
      have HO8 := Lib.hid (HO7.out.below (Nat.le_refl _) hb8)
      have HP8 := Lib.hid (HP7.out.below (Nat.le_refl _) hb8)
      have HW8 := Lib.hid (HW7.out.below (Nat.le_refl _) hb8)
      have HB8 := Lib.hid (HB7.out.trans (hb8.mono HB7.out.size))
      clear hb8
      go_wp2_with fail
      refine (longest_any E x v2 _ HP8.out.reads (by have := hEl.out; omega) hx0 (by rw [HEB.out]; exact pl.way_lines_le HBE.out.1)).mono ?_
      rintro e w' ⟨⟨mm, rfl, hmm⟩, rfl⟩
      go_wp2_with fail
      refine (iCostOf_any (pl.wrapR l x) x v5 _ HW8.out.reads (by have := pl.wrapR_len l x; have := h9.out; unfold maxLen; omega) hWs.out).mono ?_
      rintro e w9 ⟨rfl, hb9⟩
      rw [hcW.out]
      have HO9 := Lib.hid (HO8.out.below (Nat.le_refl _) hb9)
      have HB9 := Lib.hid (HB8.out.trans (hb9.mono HB8.out.size))
      clear hb9
      go_wp2_with fail
      refine (leastCost_any x hxb.1 hxb.2 l.length l v _ rfl h9.out HO9.out.lreads hall.out h12.out).mono ?_
      rintro e w' ⟨rfl, rfl⟩
      rw [hlF.out]
      go_wp2_with fail
      go_ret
      exact ⟨by first | rfl | simp, HB9.out⟩
end Go.Proofs.Ytfajllfedhifkaa
