/- Slices of numbers that a call made. -/
import Derived.Test.YtadlelcckalcoaaPkB
namespace Go.Proofs.Ytadlelcckalcoaa
open Go.RowKit

theorem infoI : (Try.prog.info? 3).map (fun i => (i.zero, i.size, i.bytes)) = some (some (.int .i64 0), 1, 8) := by kernel_rfl
/-- v owns these numbers -/
abbrev OInts (B : Nat) (w : World) (v : Value) (n : Nat) (zs : List Int) : Prop := w.ownsRow B 3 1 v n (zs.map (Value.int .i64))
theorem ints_cell {B g n cap j : Nat} {w : World} {zs : List Int} (h : OInts B w (.slice (some ⟨g, 0, none⟩) n cap) n zs) (hj : j < n) {z : Int} (hz : zs[j]? = some z) : w.cell? ⟨g, j, none⟩ = some (.int .i64 z) := by
  rw [World.ownsRow.cellAt h j (by omega), List.getElem?_map, hz]; rfl
theorem ints_store {B g n cap j : Nat} {w : World} {zs : List Int} (h : OInts B w (.slice (some ⟨g, 0, none⟩) n cap) n zs) (z : Int) : OInts B (w.setCell ⟨g, j, none⟩ (.int .i64 z)) (.slice (some ⟨g, 0, none⟩) n cap) n (zs.set j z) := by
  have := (World.ownsRow.stored h j (.int .i64 z)).1
  rw [← List.map_set] at this
  exact this
theorem ints_len {B n : Nat} {w : World} {v : Value} {zs : List Int} (h : OInts B w v n zs) : zs.length = n := by
  have := h.1; simpa using this
theorem ints_below {B C n : Nat} {w w' : World} {v : Value} {zs : List Int} (h : OInts B w v n zs) (hC : w.heap.size ≤ C) (hb : Below C w w') : OInts B w' v n zs := by
  refine ⟨h.1, ?_⟩
  rcases h.2 with hn | ⟨g, cap, cur, rfl, hB, hg, rest⟩
  · exact .inl hn
  · refine .inr ⟨g, cap, cur, rfl, hB, ?_, rest⟩
    rw [hb.block g (by have := (Array.getElem?_eq_some_iff.1 hg).1; omega)]
    exact hg
end Go.Proofs.Ytadlelcckalcoaa
