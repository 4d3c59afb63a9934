/- Slices of strings that a call made itself ('OStrs') and slices of strings that can be read ('RStrs'). -/
import Derived.Test.YtgfpbnafehpopaaDoorRows
import Derived.WalkKit
import Derived.WalkSpells
namespace Go.Proofs.YtgfpbnafehpopaaDoor
open Go.RowKit

theorem infoS : (Tryd.prog.info? 9).map (fun i => (i.zero, i.size, i.bytes)) = some (some (.string ByteArray.empty), 1, 16) := by kernel_rfl

/-- v is a slice of strings of the call's own, made in blocks from B on, and holds l -/
def OStrs (B : Nat) (w : World) (v : Value) (l : List ByteArray) : Prop := w.ownsRow B 9 1 v l.length (l.map Value.string)

theorem OStrs.nil (B : Nat) (w : World) : OStrs B w (.slice none 0 0) [] := World.ownsRow_nil _ _ _ _
theorem OStrs.alloc {B : Nat} {w : World} {v : Value} {l : List ByteArray} (h : OStrs B w v l) (o : Obj) : OStrs B (w.alloc o) v l := World.ownsRow.alloc h o
theorem OStrs.below {B C : Nat} {w w' : World} {v : Value} {l : List ByteArray} (h : OStrs B w v l) (hC : w.heap.size ≤ C) (hb : Below C w w') : OStrs B w' v l := by
  refine ⟨h.1, ?_⟩
  rcases h.2 with hn | ⟨g, cap, cur, rfl, hB, hg, rest⟩
  · exact .inl hn
  · refine .inr ⟨g, cap, cur, rfl, hB, ?_, rest⟩
    rw [hb.block g (by have := (Array.getElem?_eq_some_iff.1 hg).1; omega)]
    exact hg
theorem OStrs.mono {B B' : Nat} {w : World} {v : Value} {l : List ByteArray} (h : OStrs B w v l) (hB : B' ≤ B) : OStrs B' w v l := by
  refine ⟨h.1, ?_⟩
  rcases h.2 with hn | ⟨g, cap, cur, rfl, hg, rest⟩
  · exact .inl hn
  · exact .inr ⟨g, cap, cur, rfl, by omega, rest⟩

/-- element i of a list of strings -/
def nth (l : List ByteArray) (i : Nat) : ByteArray := l.getD i ByteArray.empty
theorem nth_eq {l : List ByteArray} {i : Nat} (h : i < l.length) : nth l i = l[i] := by simp [nth, h]
theorem nth_ext {a b : List ByteArray} (hl : a.length = b.length) (h : ∀ i, i < a.length → nth a i = nth b i) : a = b := by
  apply List.ext_getElem hl
  intro i h1 h2
  rw [← nth_eq h1, ← nth_eq h2]
  exact h i h1

/-- v is a slice of strings that reads as l -/
def RStrs (w : World) (v : Value) (l : List ByteArray) : Prop :=
  (l = [] ∧ ∃ a cap, v = .slice a 0 cap) ∨ (0 < l.length ∧ ∃ b off cap, v = .slice (some ⟨b, off, none⟩) l.length cap ∧ b < w.heap.size ∧ ∀ i, i < l.length → w.cell? ⟨b, off + i, none⟩ = some (.string (nth l i)))

theorem OStrs.reads {B : Nat} {w : World} {v : Value} {l : List ByteArray} (h : OStrs B w v l) : RStrs w v l := by
  have hw := h
  rcases h.2 with ⟨hv, hn⟩ | ⟨g, cap, cur, hv, hB, hg, hle, hm, hs, htake⟩
  · exact .inl ⟨List.length_eq_zero_iff.1 hn, none, 0, hv⟩
  · cases l with
    | nil => exact .inl ⟨rfl, _, _, hv⟩
    | cons x r =>
      refine .inr ⟨by simp, g, 0, cap, hv, (Array.getElem?_eq_some_iff.1 hg).1, fun i hi => ?_⟩
      subst hv
      have := World.ownsRow.cellAt hw i (by omega)
      rw [Nat.zero_add, this, nth_eq hi, List.getElem?_map, List.getElem?_eq_getElem hi]
      rfl

theorem RStrs.below {C : Nat} {w w' : World} {v : Value} {l : List ByteArray} (h : RStrs w v l) (hC : w.heap.size ≤ C) (hb : Below C w w') : RStrs w' v l := by
  rcases h with h | ⟨hp, b, off, cap, hv, hlt, hc⟩
  · exact .inl h
  · exact .inr ⟨hp, b, off, cap, hv, Nat.lt_of_lt_of_le hlt hb.size, fun i hi => by rw [hb.cell (by show b < C; omega)]; exact hc i hi⟩
theorem RStrs.slice {w : World} {v : Value} {l : List ByteArray} (h : RStrs w v l) : ∃ a cap, v = .slice a l.length cap := by
  rcases h with ⟨hl, a, cap, hv⟩ | ⟨_, b, off, cap, hv, _⟩
  · exact ⟨a, cap, by rw [hv, hl]; rfl⟩
  · exact ⟨_, cap, hv⟩
theorem OStrs.push1 {B : Nat} {w' : World} {v' : Value} {l : List ByteArray} {x : ByteArray} (h : w'.ownsRow B 9 1 v' (l.length + 1) (l.map Value.string ++ [.string x])) : OStrs B w' v' (l ++ [x]) := by
  unfold OStrs
  simpa using h
end Go.Proofs.YtgfpbnafehpopaaDoor
