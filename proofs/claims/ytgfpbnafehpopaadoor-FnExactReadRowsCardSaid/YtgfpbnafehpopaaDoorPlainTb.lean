/- Plain: tables: rows of cells. -/
import Derived.Test.YtgfpbnafehpopaaDoorPlainNp
namespace Go.Proofs.YtgfpbnafehpopaaDoor.pl
set_option maxRecDepth 100000

def vCell (x : ByteArray) : Bool := validT x.data.toList && decide (x.size ≤ 16)
def vCells (l : List ByteArray) : Bool := inR l.length 1 5 && l.all vCell
def rowOK (n : Nat) (c : List ByteArray) : Bool := decide (c.length = n) && vCells c
def vRows (ps : Gs) : Bool := decide (ps.length ≤ 6) && ps.all (rowOK (nthP ps 0).length)

theorem vCell_yes {x : ByteArray} (h1 : validT x.data.toList = true) (h2 : x.size ≤ 16) : vCell x = true := by simp [vCell, h1, h2]
theorem vCell_bad {x : ByteArray} (h : validT x.data.toList = false) : vCell x = false := by simp [vCell, h]
theorem vCell_long {x : ByteArray} (h : 16 < x.size) : vCell x = false := by simp [vCell]; intro _; omega
theorem vCell_parts {x : ByteArray} (h : vCell x = true) : validT x.data.toList = true ∧ x.size ≤ 16 := by simpa [vCell] using h

def cellsTo (l : List ByteArray) (k : Nat) : Prop := ∀ i, i < k → vCell (nth l i) = true
theorem cellsTo_zero (l : List ByteArray) : cellsTo l 0 := fun _ h => absurd h (by omega)
theorem cellsTo_succ {l : List ByteArray} {k : Nat} (h : cellsTo l k) (hc : vCell (nth l k) = true) : cellsTo l (k + 1) := by
  intro i hi
  by_cases e : i = k
  · subst e; exact hc
  · exact h i (by omega)
theorem vCells_yes {l : List ByteArray} (h1 : 1 ≤ l.length) (h2 : l.length ≤ 5) (h : cellsTo l l.length) : vCells l = true := by
  unfold vCells
  rw [inR_true (by omega) (by omega), Bool.true_and, List.all_eq_true]
  intro x hx
  obtain ⟨i, hi, rfl⟩ := List.getElem_of_mem hx
  rw [← nth_eq hi]; exact h i hi
theorem vCells_len {l : List ByteArray} (h : l.length < 1 ∨ 5 < l.length) : vCells l = false := by
  unfold vCells
  rw [inR_false (by omega)]; rfl
theorem vCells_bad {l : List ByteArray} {k : Nat} (hk : k < l.length) (h : vCell (nth l k) = false) : vCells l = false := by
  unfold vCells
  have : l.all vCell = false := by
    rw [List.all_eq_false]
    exact ⟨l[k], List.getElem_mem hk, by rw [← nth_eq hk, h]; simp⟩
  rw [this, Bool.and_false]
theorem vCells_parts {l : List ByteArray} (h : vCells l = true) : 1 ≤ l.length ∧ l.length ≤ 5 ∧ cellsTo l l.length := by
  unfold vCells at h
  simp only [Bool.and_eq_true, List.all_eq_true] at h
  obtain ⟨h1, h2⟩ := h
  have h3 : 1 ≤ (l.length : Int) ∧ (l.length : Int) ≤ 5 := by simpa [inR] using h1
  exact ⟨by omega, by omega, fun i hi => by rw [nth_eq hi]; exact h2 _ (List.getElem_mem hi)⟩
theorem vCells_size {l : List ByteArray} (h : vCells l = true) : ∀ i, i < l.length → (nth l i).size ≤ 16 := fun i hi => (vCell_parts ((vCells_parts h).2.2 i hi)).2
theorem vCells_text {l : List ByteArray} (h : vCells l = true) : ∀ i, i < l.length → validT (nth l i).data.toList = true := fun i hi => (vCell_parts ((vCells_parts h).2.2 i hi)).1

theorem rowOK_yes {n : Nat} {c : List ByteArray} (h1 : c.length = n) (h2 : vCells c = true) : rowOK n c = true := by simp [rowOK, h1, h2]
theorem rowOK_len {n : Nat} {c : List ByteArray} (h : ¬ c.length = n) : rowOK n c = false := by simp [rowOK, h]
theorem rowOK_bad {n : Nat} {c : List ByteArray} (h : vCells c = false) : rowOK n c = false := by simp [rowOK, h]
theorem rowOK_parts {n : Nat} {c : List ByteArray} (h : rowOK n c = true) : c.length = n ∧ vCells c = true := by simpa [rowOK] using h

def rowsTo (ps : Gs) (k : Nat) : Prop := ∀ i, i < k → rowOK (nthP ps 0).length (nthP ps i) = true
theorem rowsTo_zero (ps : Gs) : rowsTo ps 0 := fun _ h => absurd h (by omega)
theorem rowsTo_succ {ps : Gs} {k : Nat} (h : rowsTo ps k) (hc : rowOK (nthP ps 0).length (nthP ps k) = true) : rowsTo ps (k + 1) := by
  intro i hi
  by_cases e : i = k
  · subst e; exact hc
  · exact h i (by omega)
theorem vRows_all {ps : Gs} (h : rowsTo ps ps.length) : vRows ps = decide (ps.length ≤ 6) := by
  unfold vRows
  rw [all_nthP (f := rowOK (nthP ps 0).length) h, Bool.and_true]
theorem vRows_long {ps : Gs} (h : 6 < ps.length) : vRows ps = false := by
  unfold vRows
  rw [decide_eq_false (by omega)]; rfl
theorem vRows_bad {ps : Gs} {k : Nat} (hk : k < ps.length) (h : rowOK (nthP ps 0).length (nthP ps k) = false) : vRows ps = false := by
  unfold vRows
  rw [all_nthP_no (f := rowOK (nthP ps 0).length) hk h, Bool.and_false]
theorem vRows_parts {ps : Gs} (h : vRows ps = true) : ps.length ≤ 6 ∧ rowsTo ps ps.length := by
  unfold vRows at h
  simp only [Bool.and_eq_true, decide_eq_true_eq] at h
  exact ⟨h.1, fun i hi => all_at h.2 hi⟩
/-- the number of columns -/
def colsN (ps : Gs) : Nat := (nthP ps 0).length
theorem colsN_nil {ps : Gs} (h : ps.length = 0) : colsN ps = 0 := by
  have : ps = [] := List.length_eq_zero_iff.1 h
  subst this; rfl
theorem vRows_cols {ps : Gs} (h : vRows ps = true) : colsN ps ≤ 5 := by
  by_cases h0 : ps.length = 0
  · rw [colsN_nil h0]; omega
  · have h1 := (vRows_parts h).2 0 (by omega)
    exact (vCells_parts (rowOK_parts h1).2).2.1
theorem vRows_pos {ps : Gs} (h : vRows ps = true) (h0 : 0 < ps.length) : 1 ≤ colsN ps :=
  (vCells_parts (rowOK_parts ((vRows_parts h).2 0 h0)).2).1
theorem vRows_row {ps : Gs} (h : vRows ps = true) {i : Nat} (hi : i < ps.length) : (nthP ps i).length = colsN ps ∧ vCells (nthP ps i) = true :=
  rowOK_parts ((vRows_parts h).2 i hi)

/-- the column at place k, from the top on -/
def colL (ps : Gs) (k : Nat) : List ByteArray := ps.map fun c => nth c k
theorem colL_len (ps : Gs) (k : Nat) : (colL ps k).length = ps.length := by simp [colL]
theorem colL_nth {ps : Gs} {k i : Nat} (h : i < ps.length) : nth (colL ps k) i = nth (nthP ps i) k := by
  rw [nth_eq (by rw [colL_len]; exact h), nthP_eq h]; simp [colL]
theorem colL_drawL (ps : Gs) (k : Nat) : colL ps k = drawL (fun i => nth (nthP ps i) k) ps.length := by
  apply nth_ext (by rw [colL_len, drawL_len])
  intro i hi
  rw [colL_len] at hi
  rw [colL_nth hi, drawL_nth _ hi]
theorem colL_size {ps : Gs} (h : vRows ps = true) {k : Nat} (hk : k < colsN ps) : ∀ i, i < ps.length → (nth (nthP ps i) k).size ≤ 16 := by
  intro i hi
  have := vRows_row h hi
  exact vCells_size this.2 k (by rw [this.1]; exact hk)
theorem colL_text {ps : Gs} (h : vRows ps = true) {k : Nat} (hk : k < colsN ps) : ∀ i, i < ps.length → validT (nth (nthP ps i) k).data.toList = true := by
  intro i hi
  have := vRows_row h hi
  exact vCells_text this.2 k (by rw [this.1]; exact hk)

def turnL (ps : Gs) : Gs := (List.range (colsN ps)).map (colL ps)
theorem turnL_len (ps : Gs) : (turnL ps).length = colsN ps := by simp [turnL]
theorem turnL_nth {ps : Gs} {k : Nat} (h : k < colsN ps) : nthP (turnL ps) k = colL ps k := by
  rw [nthP_eq (by rw [turnL_len]; exact h)]; simp [turnL]
def turnB (ps : Gs) : Bool := vRows ps && inR ps.length 1 5
def turnR (ps : Gs) : Gs := if turnB ps = true then turnL ps else []
theorem turnR_no {ps : Gs} (h : turnB ps = false) : turnR ps = [] := by simp [turnR, h]
theorem turnR_yes {ps : Gs} (h : turnB ps = true) : turnR ps = turnL ps := by simp [turnR, h]
theorem turnB_parts {ps : Gs} (h : turnB ps = true) : vRows ps = true ∧ 1 ≤ ps.length ∧ ps.length ≤ 5 := by
  unfold turnB at h
  simp only [Bool.and_eq_true] at h
  have h3 : 1 ≤ (ps.length : Int) ∧ (ps.length : Int) ≤ 5 := by simpa [inR] using h.2
  exact ⟨h.1, by omega, by omega⟩
theorem turn_cols {ps : Gs} (h : turnB ps = true) : colsN (turnL ps) = ps.length := by
  obtain ⟨hv, h1, h5⟩ := turnB_parts h
  unfold colsN
  rw [turnL_nth (vRows_pos hv h1), colL_len]
theorem turn_valid {ps : Gs} (h : turnB ps = true) : turnB (turnL ps) = true := by
  obtain ⟨hv, h1, h5⟩ := turnB_parts h
  have hc := vRows_cols hv
  have hp := vRows_pos hv h1
  have e : (nthP (turnL ps) 0).length = ps.length := turn_cols h
  have hr : vRows (turnL ps) = true := by
    rw [vRows_all (ps := turnL ps) (fun i hi => ?_), turnL_len]
    · exact decide_eq_true (by omega)
    · rw [turnL_len] at hi
      rw [turnL_nth hi, e]
      refine rowOK_yes (colL_len _ _) (vCells_yes (by rw [colL_len]; exact h1) (by rw [colL_len]; exact h5) (fun j hj => ?_))
      rw [colL_len] at hj
      rw [colL_nth hj]
      exact vCell_yes (colL_text hv hi j hj) (colL_size hv hi j hj)
  unfold turnB
  rw [hr, turnL_len, inR_true (by omega) (by omega)]; rfl
theorem nthP_ext {a b : Gs} (hl : a.length = b.length) (h : ∀ i, i < a.length → nthP a i = nthP b i) : a = b := by
  apply List.ext_getElem hl
  intro i h1 h2
  have := h i h1
  rwa [nthP_eq h1, nthP_eq h2] at this
theorem turn_turn {ps : Gs} (h : turnB ps = true) : turnL (turnL ps) = ps := by
  obtain ⟨hv, h1, h5⟩ := turnB_parts h
  apply nthP_ext
  · rw [turnL_len, turn_cols h]
  · intro i hi
    rw [turnL_len, turn_cols h] at hi
    rw [turnL_nth (by rw [turn_cols h]; exact hi)]
    have hrow := vRows_row hv hi
    apply nth_ext
    · rw [colL_len, turnL_len, hrow.1]
    · intro j hj
      rw [colL_len, turnL_len] at hj
      rw [colL_nth (by rw [turnL_len]; exact hj), turnL_nth hj, colL_nth hi]

def widthsL (ps : Gs) : List Nat := (List.range (colsN ps)).map fun k => wide (colL ps k)
theorem wide_col {ps : Gs} (h : vRows ps = true) {k : Nat} (hk : k < colsN ps) : wide (colL ps k) ≤ 16 :=
  wideTo_le _ (fun i hi => by rw [colL_len] at hi; rw [colL_nth hi]; exact colL_size h hk i hi)
theorem le_wide_col {ps : Gs} {i k : Nat} (hi : i < ps.length) : (nth (nthP ps i) k).size ≤ wide (colL ps k) := by
  rw [← colL_nth hi]; exact le_wide _ _
theorem vRows_dropLast {ps : Gs} {n : Nat} (h : vRows ps = true) (hn : n + 1 = ps.length) : vRows (ps.take n) = true := by
  obtain ⟨h6, hr⟩ := vRows_parts h
  have hl : (ps.take n).length = n := by rw [List.length_take]; omega
  have hth : ∀ i, i < n → nthP (ps.take n) i = nthP ps i := by
    intro i hi
    rw [nthP_eq (by omega), nthP_eq (by omega), List.getElem_take]
  rw [vRows_all (ps := ps.take n) (fun i hi => ?_), hl]
  · exact decide_eq_true (by omega)
  · rw [hl] at hi
    rw [hth i hi, hth 0 (by omega)]
    exact hr i (by omega)
end Go.Proofs.YtgfpbnafehpopaaDoor.pl
