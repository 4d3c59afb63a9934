/- Tables of numbers: rows that each lie in a block of their own. -/
import Derived.Test.YtckfpneooknifaaIntsO
import Derived.Test.YtckfpneooknifaaPlainCo
import Derived.Test.YtckfpneooknifaaParts
import Derived.Test.YtckfpneooknifaaArgs
namespace Go.Proofs.Ytckfpneooknifaa
open Go.RowKit
set_option maxRecDepth 100000
set_option linter.unusedVariables false

theorem infoSI : (Try.prog.info? 43).map (fun i => (i.zero, i.size, i.bytes)) = some (some (.slice none 0 0), 1, 24) := by kernel_rfl
def updT (f : Nat → Nat → Int) (i k : Nat) (x : Int) : Nat → Nat → Int := fun i' k' => if i' = i ∧ k' = k then x else f i' k'
theorem updT_same (f : Nat → Nat → Int) (i k : Nat) (x : Int) : updT f i k x i k = x := by simp [updT]
theorem updT_other {f : Nat → Nat → Int} {i k i' k' : Nat} {x : Int} (h : ¬ (i' = i ∧ k' = k)) : updT f i k x i' k' = f i' k' := by unfold updT; rw [if_neg h]
/-- the rows of a table, in the blocks gs, the table itself in block g -/
structure TabAt (B : Nat) (w : World) (g N M : Nat) (gs : Nat → Nat) (f : Nat → Nat → Int) : Prop where
  lt : B ≤ g ∧ g < w.heap.size
  rows : ∀ i, i < N → w.cell? ⟨g, i, none⟩ = some (.slice (some ⟨gs i, 0, none⟩) M M) ∧ B ≤ gs i ∧ gs i < w.heap.size ∧ gs i ≠ g
  cells : ∀ i k, i < N → k < M → w.cell? ⟨gs i, k, none⟩ = some (.int .i64 (f i k)) ∧ w.frozen? ⟨gs i, k, none⟩ = false
  inj : ∀ i j, i < N → j < N → gs i = gs j → i = j
theorem TabAt.below {B g N M : Nat} {w w' : World} {gs : Nat → Nat} {f : Nat → Nat → Int} (h : TabAt B w g N M gs f) (hb : Below w.heap.size w w') : TabAt B w' g N M gs f := by
  refine ⟨⟨h.lt.1, Nat.lt_of_lt_of_le h.lt.2 hb.size⟩, fun i hi => ?_, fun i k hi hk => ?_, h.inj⟩
  · obtain ⟨h1, h2, h3, h4⟩ := h.rows i hi
    exact ⟨(hb.cell (p := ⟨g, i, none⟩) h.lt.2).trans h1, h2, Nat.lt_of_lt_of_le h3 hb.size, h4⟩
  · obtain ⟨h1, h2⟩ := h.cells i k hi hk
    have h3 := (h.rows i hi).2.2.1
    exact ⟨(hb.cell (p := ⟨gs i, k, none⟩) h3).trans h1, (hb.frozen (p := ⟨gs i, k, none⟩) h3).trans h2⟩
theorem TabAt.set {B g N M i k : Nat} {w : World} {gs : Nat → Nat} {f : Nat → Nat → Int} (h : TabAt B w g N M gs f) (hi : i < N) (hk : k < M) (x : Int) : TabAt B (w.setCell ⟨gs i, k, none⟩ (.int .i64 x)) g N M gs (updT f i k x) := by
  have hs : (w.setCell ⟨gs i, k, none⟩ (.int .i64 x)).heap.size = w.heap.size := by simp [World.setCell]
  refine ⟨⟨h.lt.1, by rw [hs]; exact h.lt.2⟩, fun j hj => ?_, fun j q hj hq => ?_, h.inj⟩
  · obtain ⟨h1, h2, h3, h4⟩ := h.rows j hj
    have hne := (h.rows i hi).2.2.2
    exact ⟨(World.cell?_setCell_other _ _ _ _ (by intro e; injection e with e _ _; exact hne e)).trans h1, h2, by rw [hs]; exact h3, h4⟩
  · obtain ⟨h1, h2⟩ := h.cells j q hj hq
    rw [World.frozen?_setCell]
    refine ⟨?_, h2⟩
    by_cases e : j = i ∧ q = k
    · obtain ⟨rfl, rfl⟩ := e
      rw [updT_same]; exact World.cell?_setCell_same _ _ _ h1
    · rw [updT_other e]
      refine (World.cell?_setCell_other _ _ _ _ (fun e2 => ?_)).trans h1
      injection e2 with e3 e4 _
      exact e ⟨h.inj j i hj hi e3.symm, e4.symm⟩
theorem TabAt.keeps {B g N M i k : Nat} {w w0 : World} {gs : Nat → Nat} {f : Nat → Nat → Int} (h : TabAt B w g N M gs f) (hi : i < N) (hb : Below B w0 w) (x : Value) : Below B w0 (w.setCell ⟨gs i, k, none⟩ x) :=
  hb.setCell (p := ⟨gs i, k, none⟩) (h.rows i hi).2.1 _

namespace pl
/-- what a table holds when the rows behind i and, of row i, the places from k on are done; the last column is 0 from the start -/
def TabI (a b : List ByteArray) (f : Nat → Nat → Int) (i k : Nat) : Prop :=
  ∀ i' k', i' ≤ a.length → k' ≤ b.length → (i < i' ∨ (i' = i ∧ k ≤ k') ∨ k' = b.length) → f i' k' = tabC a b i' k'
theorem tabI_start {a b : List ByteArray} {f : Nat → Nat → Int} (h : ∀ i k, i ≤ a.length → k ≤ b.length → f i k = 0) : TabI a b f a.length 0 := by
  intro i' k' hi hk hc
  rw [h i' k' hi hk]
  rcases hc with hc | ⟨hc, _⟩ | hc
  · omega
  · rw [tab_end1 (by omega)]; rfl
  · rw [tab_end2 (by omega)]; rfl
theorem tabI_row {a b : List ByteArray} {f : Nat → Nat → Int} {i : Nat} (h : TabI a b f (i + 1) 0) : TabI a b f i b.length := by
  intro i' k' hi hk hc
  refine h i' k' hi hk ?_
  rcases hc with hc | ⟨_, hc⟩ | hc
  · by_cases e : i' = i + 1
    · exact .inr (.inl ⟨e, Nat.zero_le _⟩)
    · exact .inl (by omega)
  · exact .inr (.inr (by omega))
  · exact .inr (.inr hc)
theorem tabI_put {a b : List ByteArray} {f : Nat → Nat → Int} {i k : Nat} {x : Int} (h : TabI a b f i (k + 1)) (hk2 : k < b.length) (hx : x = tabC a b i k) : TabI a b (updT f i k x) i k := by
  intro i' k' hi hk hc
  by_cases e : i' = i ∧ k' = k
  · obtain ⟨rfl, rfl⟩ := e
    rw [updT_same]; exact hx
  · rw [updT_other e]
    refine h i' k' hi hk ?_
    rcases hc with hc | ⟨rfl, hc⟩ | hc
    · exact .inl hc
    · exact .inr (.inl ⟨rfl, by by_cases e2 : k' = k; exact absurd ⟨rfl, e2⟩ e; omega⟩)
    · exact .inr (.inr hc)
end pl
end Go.Proofs.Ytckfpneooknifaa
