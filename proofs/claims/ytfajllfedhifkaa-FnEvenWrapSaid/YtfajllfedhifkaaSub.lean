/- Pieces of slices of strings; slices of numbers that a call made. -/
import Derived.Test.YtfajllfedhifkaaPlainX
import Derived.Test.YtfajllfedhifkaaTexts
import Derived.Test.YtfajllfedhifkaaJoin
namespace Go.Proofs.Ytfajllfedhifkaa
open Go.RowKit

namespace pl
theorem szJ_pc {l : List ByteArray} {i k : Nat} (h12 : ∀ x ∈ l, x.size ≤ 12) : szJ (pc l i k) ≤ 13 * l.length := by
  have h1 := szJ_bound (pc l i k) (fun x hx => h12 x (List.mem_of_mem_drop (List.mem_of_mem_take hx)))
  have h2 : (pc l i k).length ≤ l.length := by unfold pc; rw [List.length_take, List.length_drop]; omega
  omega
end pl

theorem infoI : (Try.prog.info? 3).map (fun i => (i.zero, i.size, i.bytes)) = some (some (.int .i64 0), 1, 8) := by kernel_rfl
theorem RStrs.sub {w : World} {b o n cap i k c : Nat} {l : List ByteArray} (h : RStrs w (.slice (some ⟨b, o, none⟩) n cap) l) (hn : n = l.length) (hi : i < k) (hk : k ≤ n) : RStrs w (.slice (some ⟨b, o + i, none⟩) (k - i) c) (pl.pc l i k) := by
  rcases h with ⟨hz, _⟩ | ⟨hp, b1, o1, c1, hvv, hlt, hc⟩
  · rw [hz] at hn; simp at hn; omega
  · simp only [Value.slice.injEq, Option.some.injEq, Addr.mk.injEq, and_true] at hvv
    obtain ⟨⟨rfl, rfl⟩, _, _⟩ := hvv
    have hl : (pl.pc l i k).length = k - i := pl.pc_len (by omega)
    refine .inr ⟨by omega, b, o + i, c, by rw [hl], hlt, fun j hj => ?_⟩
    rw [hl] at hj
    rw [pl.pc_nth (by omega) hj, Nat.add_assoc]
    exact hc (i + j) (by omega)

/-- v owns these numbers -/
abbrev OInts (B : Nat) (w : World) (v : Value) (n : Nat) (zs : List Int) : Prop := w.ownsRow B 3 1 v n (zs.map (Value.int .i64))
theorem ints_cell {B g n cap j : Nat} {w : World} {zs : List Int} (h : OInts B w (.slice (some ⟨g, 0, none⟩) n cap) n zs) (hj : j < n) {z : Int} (hz : zs[j]? = some z) : w.cell? ⟨g, j, none⟩ = some (.int .i64 z) := by
  rw [World.ownsRow.cellAt h j (by omega), List.getElem?_map, hz]; rfl
theorem ints_store {B g n cap j : Nat} {w : World} {zs : List Int} (h : OInts B w (.slice (some ⟨g, 0, none⟩) n cap) n zs) (z : Int) : OInts B (w.setCell ⟨g, j, none⟩ (.int .i64 z)) (.slice (some ⟨g, 0, none⟩) n cap) n (zs.set j z) := by
  have := (World.ownsRow.stored h j (.int .i64 z)).1
  rw [← List.map_set] at this
  exact this
theorem ints_len {B n : Nat} {w : World} {v : Value} {zs : List Int} (h : OInts B w v n zs) : zs.length = n := by
  have := h.1; simpa using this
theorem ints_below {B C n : Nat} {w w' : World} {v : Value} {zs : List Int} (h : OInts B w v n zs) (hC : w.heap.size ≤ C) (hb : Below C w w') : OInts B w' v n zs := by
  refine ⟨h.1, ?_⟩
  rcases h.2 with hn | ⟨g, cap, cur, rfl, hB, hg, rest⟩
  · exact .inl hn
  · refine .inr ⟨g, cap, cur, rfl, hB, ?_, rest⟩
    rw [hb.block g (by have := (Array.getElem?_eq_some_iff.1 hg).1; omega)]
    exact hg
end Go.Proofs.Ytfajllfedhifkaa
