/- The walk of FnQuoteCells. -/
import Derived.Test.YtgfpbnafehpopaaDoorDrawQc
import Derived.Test.YtgfpbnafehpopaaDoorReadC
import Derived.Test.YtgfpbnafehpopaaDoorMarkP
import Derived.Test.YtgfpbnafehpopaaDoorMaxI
namespace Go.Proofs.YtgfpbnafehpopaaDoor
open Go.RowKit
set_option maxRecDepth 100000
set_option linter.unusedVariables false

namespace pl
theorem quoR_size (l : List ByteArray) : (quoR l).size ≤ 175 := by
  cases h : vCells l with
  | false => rw [quoR_no h]; simp [bs_size]
  | true => rw [quoR_yes h]; exact quoJ_size h
theorem quoR_full {l : List ByteArray} (h : vCells l = true) : ¬ (quoR l).size = 0 := by
  intro e
  exact quoR_ne h (List.length_eq_zero_iff.1 (by rw [len_eq]; exact e))
theorem rc_back {l : List ByteArray} (h : vCells l = true) : rcB (quoR l) = true ∧ rcR (quoR l) = l := by
  obtain ⟨h1, h2⟩ := rc_only (s := quoR l) rfl (quoR_ne h)
  exact ⟨h1, by unfold rcR; rw [if_pos h1, h2]⟩
end pl

set_option maxHeartbeats 4000000 in
theorem fnQuoteCells_walk (a : Option Addr) (len cap : Nat) (zs : List Int) (w : World) (hr : IsRow .u8 w a len cap zs) (hmx : MaxI w) :
    Calls Tryd.prog 5 #[.slice a len cap] w fun e w' => e = .returned (.bool true) ∧ Below w.heap.size w w' := by
  have hlen := row_len hr
  have HMX := Lib.hid hmx
  clear hmx
  by_cases hb : 1048576 < len
  · go_enter Tryd.func5, Tryd.ntmps5
    go_wp2
    go_ret
    exact ⟨rfl, Below.refl _ _⟩
  · go_enter Tryd.func5, Tryd.ntmps5
    go_wp2_with fail
    refine (dQuoteCells_any a len cap zs _ hr).mono ?_
    rintro e w1 ⟨v, l, rfl, ho, hl, hf, hb1⟩
    have HO1 := Lib.hid ho.lreads
    have HB1 := Lib.hid hb1
    have HL : Hid (l.length ≤ 1048576) := Lib.hid (by omega)
    have HS : Hid (∀ i, i < l.length → (nth l i).size ≤ 1048576) := Lib.hid (fun i hi => by have := hf i hi; omega)
    have HM1 := Lib.hid (HMX.out.below (Nat.le_refl _) hb1)
    clear ho hb1 hl hf
    go_wp2_with fail
    refine (iQuoteCells_any l v _ HO1.out.1 (by have := HL.out; omega) HS.out HM1.out).mono ?_
    rintro e w2 ⟨rfl, hb2⟩
    have HO2 := Lib.hid (HO1.out.below (Nat.le_refl _) hb2)
    have HB2 := Lib.hid (HB1.out.trans (hb2.mono HB1.out.size))
    clear hb2
    have HDZ := Lib.hid (pl.quoR_size l)
    obtain ⟨D, HD⟩ : ∃ D, Hid (pl.quoR l = D) := ⟨_, Lib.hid rfl⟩
    rw [HD.out] at HDZ ⊢
    go_wp2_with fail
    refine (sQuoteCells_any l v _ HO2.out HL.out HS.out).mono ?_
    rintro e w3 ⟨rfl, hb3⟩
    rw [HD.out]
    have HO3 := Lib.hid (HO2.out.below (Nat.le_refl _) hb3)
    have HB3 := Lib.hid (HB2.out.trans (hb3.mono HB2.out.size))
    clear hb3
    cases hv : pl.vCells l with
    | false =>
      have he : D.toList.isEmpty = true := pl.empty_of (by rw [← HD.out, pl.quoR_no hv]; rfl)
      clear hv
      go_wp2_with fail
      refine (sQuoteCells_any l v _ HO3.out HL.out HS.out).mono ?_
      rintro e w4 ⟨rfl, hb4⟩
      rw [HD.out]
      have HB4 := Lib.hid (HB3.out.trans (hb4.mono HB3.out.size))
      clear hb4
      go_wp2_with fail
      go_ret
      exact ⟨rfl, HB4.out⟩
    | true =>
      have he : D.toList.isEmpty = false := pl.nonempty_of (by rw [← HD.out]; exact pl.quoR_full hv)
      have hbk := pl.rc_back hv
      rw [HD.out] at hbk
      have HBK := Lib.hid hbk
      have HM3 := Lib.hid (HMX.out.below (Nat.le_refl _) HB3.out)
      clear hv hbk
      go_wp2_with fail
      refine (iReadCells_any D _ (by have := HDZ.out; omega) HM3.out).mono ?_
      rintro e w4 ⟨v4, rfl, ho4, hb4⟩
      rw [HBK.out.2] at ho4
      rw [HBK.out.1]
      have HK4 := Lib.hid ho4.reads
      have HO4 := Lib.hid (HO3.out.below (Nat.le_refl _) hb4)
      have HB4 := Lib.hid (HB3.out.trans (hb4.mono HB3.out.size))
      clear hb4 ho4
      go_wp2_with fail
      refine (equalTexts_selfM l v4 v _ HK4.out HO4.out.1 (by have := HL.out; omega)).mono ?_
      rintro e w5 ⟨rfl, hb5⟩
      have HB5 := Lib.hid (HB4.out.trans (hb5.mono HB4.out.size))
      clear hb5
      go_wp2_with fail
      go_ret
      exact ⟨rfl, HB5.out⟩
end Go.Proofs.YtgfpbnafehpopaaDoor
