/- The walk of FnFillForm. -/
import Derived.Test.YtadlelcckalcoaaDoorPlainFz
import Derived.Test.YtadlelcckalcoaaDoorDrawFf
import Derived.Test.YtadlelcckalcoaaDoorFillS
import Derived.Test.YtadlelcckalcoaaDoorFillSm
import Derived.Test.YtadlelcckalcoaaDoorMaxI
namespace Go.Proofs.YtadlelcckalcoaaDoor
open Go.RowKit
set_option maxRecDepth 100000
set_option linter.unusedVariables false

set_option maxHeartbeats 8000000 in
theorem fnFillForm_walk (a : Option Addr) (len cap : Nat) (zs : List Int) (w : World) (hr : IsRow .u8 w a len cap zs) (hmx : MaxI w) :
    Calls Tryd.prog 6 #[.slice a len cap] w fun e w' => e = .returned (.bool true) ∧ Below w.heap.size w w' := by
  have hlen := row_len hr
  have HMX := Lib.hid hmx
  clear hmx
  by_cases hb : 1048576 < len
  · go_enter Tryd.func6, Tryd.ntmps6
    go_wp2
    go_ret
    exact ⟨rfl, Below.refl _ _⟩
  · go_enter Tryd.func6, Tryd.ntmps6
    go_wp2_with fail
    refine (dFillForm_any a len cap zs _ hr).mono ?_
    rintro e w1 ⟨s, v, fl, rfl, hs, hrf, hl, hf, hb1⟩
    have HB1 := Lib.hid hb1
    have HR1 := Lib.hid hrf
    have HZ : Hid (∀ i, i < fl.length → (pl.nthQ fl i).1.size ≤ 1048576 ∧ (pl.nthQ fl i).2.size ≤ 1048576) := Lib.hid (fun i hi => by have := hf i hi; omega)
    have HL : Hid (fl.length ≤ 1048576) := Lib.hid (by omega)
    clear hb1 hrf hf hl
    go_wp2_with fail
    refine (iFillForm_any s fl v _ (by unfold maxLen; omega) (HMX.out.below (Nat.le_refl _) HB1.out) HR1.out HL.out HZ.out).mono ?_
    rintro e w2 ⟨hb2, o, ho, hres⟩
    have HO := Lib.hid ho
    have HB2 := Lib.hid (HB1.out.trans (hb2.mono HB1.out.size))
    have HR2 := Lib.hid (HR1.out.below (Nat.le_refl _) hb2)
    clear hb2 ho
    rcases hres with ⟨x, rfl, rfl⟩ | ⟨rfl, rfl⟩
    · go_wp2_with fail
      refine (sFillForm_any s fl v _ (by omega) HR2.out HL.out HZ.out).mono ?_
      rintro e w3 ⟨hb3, o3, ho3, hres⟩
      have HB3 := Lib.hid (HB2.out.trans (hb3.mono HB2.out.size))
      have HR3 := Lib.hid (HR2.out.below (Nat.le_refl _) hb3)
      obtain rfl : o3 = some x := pl.FillIs.uniq ho3 HO.out
      clear hb3 ho3
      rcases hres with ⟨y, hy, rfl⟩ | ⟨hy, _⟩
      · injection hy with hy
        subst hy
        obtain ⟨X, HX⟩ : ∃ X, Hid (pl.bs x = X) := ⟨_, Lib.hid rfl⟩
        rw [HX.out]
        have hxx : (X.toList != X.toList) = false := by simp
        have hxy : (X.toList == X.toList) = true := by simp
        go_wp2_with fail
        refine (iFillSome_any s fl v _ (by unfold maxLen; omega) (HMX.out.below (Nat.le_refl _) HB3.out) HR3.out HL.out HZ.out).mono ?_
        rintro e w4 ⟨hb4, o4, ho4, hres⟩
        have HB4 := Lib.hid (HB3.out.trans (hb4.mono HB3.out.size))
        clear hb4
        rcases hres with ⟨y, rfl, rfl⟩ | ⟨rfl, rfl⟩
        · have HF := Lib.hid (pl.fill_two HO.out ho4)
          have hys : (pl.bs y).size ≤ 120 := by
            have := pl.validT_len (pl.someIs_form ho4).2.1
            exact this
          clear ho4
          obtain ⟨Y, HY⟩ : ∃ Y, Hid (pl.bs y = Y) := ⟨_, Lib.hid rfl⟩
          rw [HY.out] at HF hys ⊢
          go_wp2_with fail
          refine (iFillForm_any Y [] _ _ (by unfold maxLen; omega) ?ma (.inl ⟨rfl, _, _, rfl⟩) (Nat.zero_le _) (fun i h => by simp at h)).mono ?_
          case ma => first | exact HMX.out.below (Nat.le_refl _) HB4.out | exact HMX.out.below (Nat.le_refl _) (HB4.out.alloc HB4.out.size _)
          rintro e w5 ⟨hb5, o5, ho5, hres⟩
          have HB5 : Hid (Below w.heap.size w w5) := Lib.hid (by first | exact HB4.out.trans (hb5.mono HB4.out.size) | exact (HB4.out.alloc HB4.out.size _).trans (hb5.mono (by simp; have := HB4.out.size; omega)))
          obtain rfl : o5 = some x := pl.FillIs.uniq ho5 HF.out
          clear hb5 ho5
          rcases hres with ⟨z, hz, rfl⟩ | ⟨hz, _⟩
          · injection hz with hz
            subst hz
            rw [HX.out]
            go_wp2_with fail
            go_ret
            exact ⟨rfl, HB5.out⟩
          · cases hz
        · clear ho4
          go_wp2_with fail
          refine (iFillForm_any ⟨#[]⟩ [] _ _ (by decide) ?mb (.inl ⟨rfl, _, _, rfl⟩) (Nat.zero_le _) (fun i h => by simp at h)).mono ?_
          case mb => first | exact HMX.out.below (Nat.le_refl _) HB4.out | exact HMX.out.below (Nat.le_refl _) (HB4.out.alloc HB4.out.size _)
          rintro e w5 ⟨hb5, o5, ho5, hres⟩
          have HB5 : Hid (Below w.heap.size w w5) := Lib.hid (by first | exact HB4.out.trans (hb5.mono HB4.out.size) | exact (HB4.out.alloc HB4.out.size _).trans (hb5.mono (by simp; have := HB4.out.size; omega)))
          obtain ⟨s5, b5, rfl⟩ : ∃ s5 b5, e = .returned (.tuple #[.string s5, .bool b5]) := by
            rcases hres with ⟨z, _, rfl⟩ | ⟨_, rfl⟩
            · exact ⟨_, _, rfl⟩
            · exact ⟨_, _, rfl⟩
          clear hb5 ho5 hres
          go_wp2_with fail
          go_ret
          exact ⟨rfl, HB5.out⟩
      · cases hy
    · go_wp2_with fail
      refine (sFillForm_any s fl v _ (by omega) HR2.out HL.out HZ.out).mono ?_
      rintro e w3 ⟨hb3, o3, ho3, hres⟩
      have HB3 := Lib.hid (HB2.out.trans (hb3.mono HB2.out.size))
      obtain rfl : o3 = none := pl.FillIs.uniq ho3 HO.out
      clear hb3 ho3
      rcases hres with ⟨y, hy, _⟩ | ⟨_, rfl⟩
      · cases hy
      · go_wp2_with fail
        go_ret
        exact ⟨rfl, HB3.out⟩
end Go.Proofs.YtadlelcckalcoaaDoor
