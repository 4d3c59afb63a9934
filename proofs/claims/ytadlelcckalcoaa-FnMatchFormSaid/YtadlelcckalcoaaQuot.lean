/- Contracts: quoteCell of both sides. -/
import Derived.Test.YtadlelcckalcoaaPkC
import Derived.Test.YtadlelcckalcoaaShelfQ
import Derived.Test.YtadlelcckalcoaaValid
import Derived.Test.YtadlelcckalcoaaEq
namespace Go.Proofs.Ytadlelcckalcoaa
open Go.RowKit
set_option maxRecDepth 100000

/-- the library's variable holds a number -/
def MaxI (w : World) : Prop := 0 < w.heap.size ∧ ∃ m, w.cell? ⟨0, 0, none⟩ = some (.int .i64 m)
theorem MaxI.below {C : Nat} {w w' : World} (h : MaxI w) (hC : w.heap.size ≤ C) (hb : Below C w w') : MaxI w' := by
  obtain ⟨h0, m, hm⟩ := h
  exact ⟨by have := hb.size; omega, m, (hb.cell (p := ⟨0, 0, none⟩) (by show 0 < C; omega)).trans hm⟩

theorem ascii_of {s : ByteArray} (h : pl.validT s.data.toList = true) : ∀ (j : Nat) (b : UInt8), s.data.toList[j]? = some b → b.toNat < 128 := by
  intro j b hb
  have hm := List.mem_of_getElem? hb
  unfold pl.validT at h
  rw [Bool.and_eq_true] at h
  have h2 := List.all_eq_true.1 h.1 b hm
  have h3 := pl.plainB_lt h2
  omega

theorem ascii_qs : ∀ (j : Nat) (b : UInt8), (⟨#[44, 34, 32]⟩ : ByteArray).data.toList[j]? = some b → b.toNat < 128 := by
  intro j b hb
  have hm := List.mem_of_getElem? hb
  have h2 : b = 44 ∨ b = 34 ∨ b = 32 := by simpa using hm
  rcases h2 with rfl | rfl | rfl <;> decide
end Go.Proofs.Ytadlelcckalcoaa
