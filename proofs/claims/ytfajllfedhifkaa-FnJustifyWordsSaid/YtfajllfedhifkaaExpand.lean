/- Contracts: ExpandTabs of both sides. -/
import Derived.Test.YtfajllfedhifkaaTabs
namespace Go.Proofs.Ytfajllfedhifkaa
open Go.RowKit
set_option maxRecDepth 100000

theorem wd_cases (a : Int) : (∃ wd : Nat, a = wd ∧ 1 ≤ wd ∧ wd ≤ 12) ∨ (a < 1) ∨ (1 ≤ a ∧ 12 < a) := by
  by_cases h1 : a < 1
  · exact .inr (.inl h1)
  · by_cases h2 : 12 < a
    · exact .inr (.inr ⟨by omega, h2⟩)
    · exact .inl ⟨a.toNat, by omega, by omega, by omega⟩

theorem BAt.below {B b C : Nat} {p : Value} {bs : List Value} {w w' : World} (h : BAt B b p bs w) (hC : w.heap.size ≤ C) (hb : Below C w w') : BAt B b p bs w' := by
  have hlt := h.lt
  obtain ⟨hB, v, hbk, hown, hne⟩ := h
  refine ⟨hB, v, (hb.block b (by omega)).trans hbk, ⟨hown.1, ?_⟩, hne⟩
  rcases hown.2 with hn | ⟨g, cap, cur, rfl, hg, hh, rest⟩
  · exact .inl hn
  · refine .inr ⟨g, cap, cur, rfl, hg, ?_, rest⟩
    rw [hb.block g (by have := (Array.getElem?_eq_some_iff.1 hh).1; omega)]
    exact hh
theorem BAt.iterAt {B b k pos pos' : Nat} {p : Value} {bs : List Value} {w : World} {s : ByteArray} (h : BAt B b p bs w) (hk : w.heap[k]? = some (.stringIter s pos)) : BAt B b p bs (w.iterAt k s pos') := by
  obtain ⟨hB, v, hb, hown, hne⟩ := h
  have hkb : b ≠ k := by
    intro e1
    rw [e1, hk] at hb
    cases hb
  refine ⟨hB, v, (Lib.iterAt_other w k b s pos' hkb).trans hb, ⟨hown.1, ?_⟩, hne⟩
  rcases hown.2 with hn | ⟨g, cap, cur, hv, hbg, hg, rest⟩
  · exact .inl hn
  · have hkg : g ≠ k := by
      intro e1
      rw [e1, hk] at hg
      cases hg
    exact .inr ⟨g, cap, cur, hv, hbg, (Lib.iterAt_other w k g s pos' hkg).trans hg, rest⟩
theorem IsB.below {B b C : Nat} {bs : List Value} {w w' : World} (h : IsB B b bs w) (hC : w.heap.size ≤ C) (hb : Below C w w') : IsB B b bs w' := h.elim (fun x => .inl (BAt.below x hC hb)) (fun x => .inr (BAt.below x hC hb))
theorem IsB.iterAt {B b k pos pos' : Nat} {bs : List Value} {w : World} {s : ByteArray} (h : IsB B b bs w) (hk : w.heap[k]? = some (.stringIter s pos)) : IsB B b bs (w.iterAt k s pos') := h.elim (fun x => .inl (BAt.iterAt x hk)) (fun x => .inr (BAt.iterAt x hk))
theorem IsB.alloc {B b : Nat} {bs : List Value} {w : World} (h : IsB B b bs w) (o : Obj) : IsB B b bs (w.alloc o) := IsB.below h (Nat.le_refl _) ((Below.refl _ _).alloc (Nat.le_refl _) o)

theorem builderLen_any (B b : Nat) (o : List UInt8) (w : World) (h : IsB B b (Lib.byteCells o) w) :
    Calls Try.prog 94 #[.pointer (some ⟨b, 0, none⟩)] w fun e w' => e = .returned (.int .i64 (pl.bs o).size) ∧ w = w' := by
  refine (Try.Builder_Len B b (Lib.byteCells o) w h).mono ?_
  rintro e w' ⟨rfl, rfl⟩
  exact ⟨by rw [Lib.byteCells_length]; rfl, rfl⟩

theorem cells_spB (o : List UInt8) (n : Nat) : Lib.byteCells o ++ Lib.strCells (pl.spB n) = Lib.byteCells (o ++ pl.spL n) := by
  rw [Lib.strCells_eq, Lib.byteCells_append]; rfl
theorem cells_one (o : List UInt8) (c : UInt8) : Lib.byteCells o ++ [.int .u8 (c.toNat : Int)] = Lib.byteCells (o ++ [c]) := by
  rw [Lib.byteCells_append]; rfl
end Go.Proofs.Ytfajllfedhifkaa
