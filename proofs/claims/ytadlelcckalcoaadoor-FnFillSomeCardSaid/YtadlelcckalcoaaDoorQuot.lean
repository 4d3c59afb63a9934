/- Contracts: quoteCell of both sides. -/
import Derived.Test.YtadlelcckalcoaaDoorPkC
import Derived.Test.YtadlelcckalcoaaDoorShelfQ
import Derived.Test.YtadlelcckalcoaaDoorValid
import Derived.Test.YtadlelcckalcoaaDoorEq
namespace Go.Proofs.YtadlelcckalcoaaDoor
open Go.RowKit
set_option maxRecDepth 100000

/-- the library's variable holds a number -/
def MaxI (w : World) : Prop := 1 < w.heap.size ∧ ∃ m, w.cell? ⟨1, 0, none⟩ = some (.int .i64 m)
theorem MaxI.below {C : Nat} {w w' : World} (h : MaxI w) (hC : w.heap.size ≤ C) (hb : Below C w w') : MaxI w' := by
  obtain ⟨h0, m, hm⟩ := h
  exact ⟨by have := hb.size; omega, m, (hb.cell (p := ⟨1, 0, none⟩) (by show 1 < C; omega)).trans hm⟩

theorem ascii_of {s : ByteArray} (h : pl.validT s.data.toList = true) : ∀ (j : Nat) (b : UInt8), s.data.toList[j]? = some b → b.toNat < 128 := by
  intro j b hb
  have hm := List.mem_of_getElem? hb
  unfold pl.validT at h
  rw [Bool.and_eq_true] at h
  have h2 := List.all_eq_true.1 h.1 b hm
  have h3 := pl.plainB_lt h2
  omega

theorem ascii_qs : ∀ (j : Nat) (b : UInt8), (⟨#[44, 34, 32]⟩ : ByteArray).data.toList[j]? = some b → b.toNat < 128 := by
  intro j b hb
  have hm := List.mem_of_getElem? hb
  have h2 : b = 44 ∨ b = 34 ∨ b = 32 := by simpa using hm
  rcases h2 with rfl | rfl | rfl <;> decide
set_option maxHeartbeats 1000000 in
theorem replQ_any (s : ByteArray) (w : World) (hs : s.size ≤ 1000000) (hm : MaxI w) :
    Calls Tryd.prog 65 #[.string s, .string ⟨#[34]⟩, .string ⟨#[34, 34]⟩] w fun e w' => e = .returned (.string (pl.bs (pl.dblQ s.data.toList))) ∧ Below w.heap.size w w' := by
  obtain ⟨_, m, hm⟩ := hm
  have hc : Lib.countB s ⟨#[34]⟩ ≤ s.size := by
    have := Lib.countB_mul_le ⟨#[34]⟩ (by decide) s.size s (Nat.le_refl _)
    have e : (⟨#[34]⟩ : ByteArray).size = 1 := rfl
    rw [e] at this
    omega
  refine (Tryd.strings_ReplaceAll s ⟨#[34]⟩ ⟨#[34, 34]⟩ m w (by omega) hm (by decide) (by show s.size + Lib.countB s ⟨#[34]⟩ * 2 ≤ _; omega)).mono ?_
  rintro e w' ⟨rfl, hb⟩
  exact ⟨by rw [← pl.replaceAll_dbl]; rfl, hb⟩

end Go.Proofs.YtadlelcckalcoaaDoor
