/- Contract: plainOf. -/
import Derived.Test.YtadlelcckalcoaaMapS
import Derived.Test.YtadlelcckalcoaaForm
import Derived.Below
namespace Go.Proofs.Ytadlelcckalcoaa
open Go.RowKit Go.Maps
set_option maxRecDepth 100000
set_option linter.unusedVariables false

namespace pl
/-- what a piece is filled to -/
def valP (vs : Vals) (n p : ByteArray) : Option (List UInt8) := if n.size = 0 then some p.data.toList else vs n.data.toList
theorem valP_plain (vs : Vals) {n : ByteArray} (p : ByteArray) (h : n.size = 0) : valP vs n p = some p.data.toList := by simp [valP, h]
theorem valP_hole (vs : Vals) {n : ByteArray} (p : ByteArray) (h : ¬ n.size = 0) : valP vs n p = vs n.data.toList := by simp [valP, h]
end pl

def PlainPost (vs : pl.Vals) (n p : ByteArray) (w : World) (e : Ending) (w' : World) : Prop :=
  Below w.heap.size w w' ∧ ((∃ v, pl.valP vs n p = some v ∧ e = .returned (.tuple #[.string (pl.bs v), .bool true])) ∨ (pl.valP vs n p = none ∧ e = .returned (.tuple #[.string ⟨#[]⟩, .bool false])))

set_option maxHeartbeats 1000000 in
theorem plainOf_any (b k : Nat) (vs : pl.Vals) (n p : ByteArray) (w : World) (hown : MapV b k w vs) (hn : n.size ≤ maxLen) :
    Calls Try.prog 66 #[.map (some b), .agg #[.string n, .string p]] w (PlainPost vs n p w) := by
  have HO := Lib.hid hown
  clear hown
  have hA : Below w.heap.size w (w.alloc (.cells #[.string n, .string p] 97)) := (Below.refl _ _).alloc (Nat.le_refl _) _
  go_enter Try.func66, Try.ntmps66
  go_wp2_with fail
  refine (isHole_any n p _).mono ?_
  rintro e w1 ⟨rfl, hb1⟩
  have hB : Below w.heap.size w w1 := hA.trans (hb1.mono hA.size)
  have HB := Lib.hid hB
  have HO1 := Lib.hid (HO.out.below hB (Nat.le_refl _))
  have c0 : w1.cell? ⟨w.heap.size, 0, none⟩ = some (.string n) := (hb1.cell (p := ⟨w.heap.size, 0, none⟩) (by simp)).trans (by simp)
  have c1 : w1.cell? ⟨w.heap.size, 1, none⟩ = some (.string p) := (hb1.cell (p := ⟨w.heap.size, 1, none⟩) (by simp)).trans (by simp)
  clear hA hb1 hB
  by_cases hz : n.size = 0
  · have hd : decide (¬ n.size = 0) = false := decide_eq_false (by omega)
    have HV := Lib.hid (pl.valP_plain vs p hz)
    rw [hd]
    clear hd hz
    go_wp2_with fail
    go_ret2
    exact ⟨HB.out, .inl ⟨_, HV.out, by rw [pl.bs_self]; rfl⟩⟩
  · have hd : decide (¬ n.size = 0) = true := decide_eq_true hz
    have HV := Lib.hid (pl.valP_hole vs p hz)
    rw [hd]
    clear hd hz
    cases hv : vs n.data.toList with
    | some v =>
      have HS := Lib.hid hv
      clear hv
      go_wp2_with (at_lookup; refine wpList_look_some rfl _ _ rfl b k vs rfl HO1.out n rfl hn v HS.out ?_)
      go_ret2
      exact ⟨HB.out, .inl ⟨v, HV.out.trans HS.out, rfl⟩⟩
    | none =>
      have HS := Lib.hid hv
      clear hv
      go_wp2_with (at_lookup; refine wpList_look_none rfl _ _ rfl b k vs rfl HO1.out n rfl hn HS.out ?_)
      go_ret2
      exact ⟨HB.out, .inr ⟨HV.out.trans HS.out, rfl⟩⟩
end Go.Proofs.Ytadlelcckalcoaa
