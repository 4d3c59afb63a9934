/- Contracts: ValidForm of both sides; the walk of FnExactValidForm. -/
import Derived.Test.YtadlelcckalcoaaDoorReadF
import Derived.Test.YtadlelcckalcoaaDoorParts2
import Derived.Test.YtadlelcckalcoaaDoorErrAs
import Derived.Test.YtadlelcckalcoaaDoorMaxI
namespace Go.Proofs.YtadlelcckalcoaaDoor
open Go.RowKit
set_option maxRecDepth 100000
set_option linter.unusedVariables false

/-- the library's variable holds the type that all errors have -/
def ErrI (w : World) : Prop := w.cell? ⟨0, 0, none⟩ = some (.iface 110 (.agg #[.pointer (some ⟨4, 47, none⟩)]))
theorem ErrI.lt {w : World} (h : ErrI w) : 0 < w.heap.size := by
  rcases Nat.lt_or_ge 0 w.heap.size with h1 | h1
  · exact h1
  · unfold ErrI at h
    simp [World.cell?, Array.getElem?_eq_none h1] at h
theorem ErrI.below {C : Nat} {w w' : World} (h : ErrI w) (hC : w.heap.size ≤ C) (hb : Below C w w') : ErrI w' :=
  (hb.cell (p := ⟨0, 0, none⟩) (by have := h.lt; show 0 < C; omega)).trans h

set_option maxHeartbeats 1000000 in
theorem iValidForm_any (s : ByteArray) (w : World) (hs : s.size ≤ maxLen) (hm : MaxI w) (he : ErrI w) :
    Calls Tryd.prog 12 #[.string s] w fun e w' => e = .returned (.bool (pl.formB s)) ∧ Below w.heap.size w w' := by
  have HE := Lib.hid he
  clear he
  go_enter Tryd.func12, Tryd.ntmps12
  go_wp2_with fail
  refine (readForm_any s _ hs hm).mono ?_
  rintro e w1 ⟨hb1, hres⟩
  have HB1 := Lib.hid hb1
  have HE1 := Lib.hid (HE.out.below (Nat.le_refl _) hb1)
  clear hb1
  rcases hres with ⟨m, rfl, hno⟩ | ⟨v, ps, rfl, hyes, ho, hok, hl⟩
  · have HF : Hid (pl.formB s = false) := Lib.hid (by unfold pl.formB; rw [hno]; rfl)
    have hA : Below w1.heap.size w1 (w1.alloc (.cells #[.string ⟨#[]⟩] 50)) := (Below.refl _ _).alloc (Nat.le_refl _) _
    have HEA := Lib.hid (HE1.out.below (Nat.le_refl _) hA)
    have HBA := Lib.hid (HB1.out.trans (hA.mono HB1.out.size))
    have hsz : (w1.alloc (.cells #[.string ⟨#[]⟩] 50)).heap.size = w1.heap.size + 1 := by simp
    have hw1 := HB1.out.size
    clear hno hA
    go_wp2_with fail
    refine (as_hit m ⟨w1.heap.size, 0, none⟩ (.string ⟨#[]⟩) _ HEA.out (by simp) (by simp)).mono ?_
    rintro e w3 ⟨rfl, w2, hb2, rfl⟩
    have HB3 : Hid (Below w.heap.size w (w2.setCell ⟨w1.heap.size, 0, none⟩ (.string m))) := Lib.hid ((HBA.out.trans (hb2.mono (by rw [hsz]; omega))).setCell (by show w.heap.size ≤ w1.heap.size; omega) _)
    clear hb2 hsz
    go_wp2_with fail
    go_ret
    exact ⟨by rw [HF.out]; rfl, HB3.out⟩
  · have HF : Hid (pl.formB s = true) := Lib.hid (by unfold pl.formB; rw [hyes]; rfl)
    clear hyes ho hok hl
    go_wp2_with fail
    refine (as_nil _ _).mono ?_
    rintro e w2 ⟨rfl, rfl⟩
    go_wp2_with fail
    go_ret
    exact ⟨by rw [HF.out]; rfl, HB1.out.alloc HB1.out.size _⟩

theorem sValidForm_any (s : ByteArray) (w : World) (hs : s.size ≤ 1048576) :
    Calls Tryd.prog 13 #[.string s] w fun e w' => e = .returned (.bool (pl.formB s)) ∧ Below w.heap.size w w' := by
  go_enter Tryd.func13, Tryd.ntmps13
  go_wp2_with fail
  refine (sparts_any s _ hs).mono ?_
  rintro e w1 ⟨hb1, hres⟩
  have HB1 := Lib.hid hb1
  clear hb1
  rcases hres with ⟨v, u, rfl, hno⟩ | ⟨v, u, T, N, rfl, hyes, hoT, hoN, hTl, h5, hnm, hts⟩
  · have HF : Hid (pl.formB s = false) := Lib.hid (by unfold pl.formB; rw [hno]; rfl)
    clear hno
    go_wp2_with fail
    go_ret
    exact ⟨by rw [HF.out]; rfl, HB1.out⟩
  · have HF : Hid (pl.formB s = true) := Lib.hid (by unfold pl.formB; rw [hyes]; rfl)
    clear hyes hoT hoN hTl h5 hnm hts
    go_wp2_with fail
    go_ret
    exact ⟨by rw [HF.out]; rfl, HB1.out⟩

set_option maxHeartbeats 400000 in
theorem fnExactValidForm_walk (a0 : ByteArray) (h0 : a0.size ≤ maxLen) (w : World) (hmx : MaxI w) (hex : ErrI w) :
    Calls Tryd.prog 8 #[.string a0] w fun e w' => e = .returned (.bool true) ∧ Below w.heap.size w w' := by
  have HMX := Lib.hid hmx
  have HEX := Lib.hid hex
  clear hmx hex
  have hs0 := h0
  unfold maxLen at hs0
  by_cases hb0 : 1048576 < a0.size
  · go_enter Tryd.func8, Tryd.ntmps8
    go_wp2
    go_ret
    exact ⟨rfl, Below.refl _ _⟩
  go_enter Tryd.func8, Tryd.ntmps8
  go_wp2_with fail
  refine (sValidForm_any a0 _ (by omega)).mono ?_
  rintro e w1 ⟨rfl, hb1⟩
  have HB1 := Lib.hid hb1
  clear hb1
  obtain ⟨R, HR⟩ : ∃ R, Hid (pl.formB a0 = R) := ⟨_, Lib.hid rfl⟩
  rw [HR.out]
  go_wp2_with fail
  refine (iValidForm_any a0 _ h0 (HMX.out.below (Nat.le_refl _) HB1.out) (HEX.out.below (Nat.le_refl _) HB1.out)).mono ?_
  rintro e w2 ⟨rfl, hb2⟩
  rw [HR.out]
  have HB2 := Lib.hid (HB1.out.trans (hb2.mono HB1.out.size))
  clear hb2
  cases R with
  | false =>
    go_wp2_with fail
    go_ret
    exact ⟨rfl, HB2.out⟩
  | true =>
    go_wp2_with fail
    go_ret
    exact ⟨rfl, HB2.out⟩
end Go.Proofs.YtadlelcckalcoaaDoor
