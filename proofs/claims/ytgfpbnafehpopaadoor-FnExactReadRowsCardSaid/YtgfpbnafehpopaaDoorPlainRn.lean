/- Plain: tables in columns: lines of padded cells. -/
import Derived.Test.YtgfpbnafehpopaaDoorPlainTb
import Derived.Test.YtgfpbnafehpopaaDoorPlainQ
import Derived.Test.YtgfpbnafehpopaaDoorPlainG
namespace Go.Proofs.YtgfpbnafehpopaaDoor.pl
set_option maxRecDepth 100000

def barS : ByteArray := ⟨#[32, 124, 32]⟩
def howB (h : ByteArray) : Bool := decide (h.data.toList = hLeft) || decide (h.data.toList = hRight) || decide (h.data.toList = hMid)
theorem howB_of {h : ByteArray} {l r m : Bool} (hh : How h l r m) : howB h = (l || r || m) := by
  obtain ⟨h1, h2, h3⟩ := hh
  rw [Lib.toList_data] at h1 h2 h3
  unfold howB
  have e1 : decide (h.data.toList = hLeft) = l := by rw [← h1]; exact (Bool.beq_eq_decide_eq _ _).symm
  have e2 : decide (h.data.toList = hRight) = r := by rw [← h2]; exact (Bool.beq_eq_decide_eq _ _).symm
  have e3 : decide (h.data.toList = hMid) = m := by rw [← h3]; exact (Bool.beq_eq_decide_eq _ _).symm
  rw [e1, e2, e3]
theorem howB_parts {h : ByteArray} (hh : howB h = true) : h.data.toList = hLeft ∨ h.data.toList = hRight ∨ h.data.toList = hMid := by
  unfold howB at hh
  simp only [Bool.or_eq_true, decide_eq_true_eq] at hh
  rcases hh with (h1 | h1) | h1
  · exact .inl h1
  · exact .inr (.inl h1)
  · exact .inr (.inr h1)

def cellP (ps : Gs) (hs : List ByteArray) (i k : Nat) : ByteArray := padB (nth (nthP ps i) k) (wide (colL ps k) : Nat) (nth hs k)
def rowP (ps : Gs) (hs : List ByteArray) (i : Nat) : List ByteArray := drawL (cellP ps hs i) (colsN ps)
def lineP (ps : Gs) (hs : List ByteArray) (i : Nat) : ByteArray := joinB (rowP ps hs i) barS
def rendL (ps : Gs) (hs : List ByteArray) : List ByteArray := drawL (lineP ps hs) ps.length
def rendB (ps : Gs) (hs : List ByteArray) : Bool := vRows ps && decide (hs.length = colsN ps) && hs.all howB
def rendR (ps : Gs) (hs : List ByteArray) : List ByteArray := if rendB ps hs = true then rendL ps hs else []
theorem rendL_len (ps : Gs) (hs : List ByteArray) : (rendL ps hs).length = ps.length := drawL_len _ _
theorem rowP_len (ps : Gs) (hs : List ByteArray) (i : Nat) : (rowP ps hs i).length = colsN ps := drawL_len _ _
theorem rendL_nil {ps : Gs} (hs : List ByteArray) (h : ps.length = 0) : rendL ps hs = [] := by unfold rendL; rw [h]; rfl
theorem rendR_yes {ps : Gs} {hs : List ByteArray} (h : rendB ps hs = true) : rendR ps hs = rendL ps hs := by simp [rendR, h]
theorem rendR_no {ps : Gs} {hs : List ByteArray} (h : rendB ps hs = false) : rendR ps hs = [] := by simp [rendR, h]
theorem rendR_nil {ps : Gs} (hs : List ByteArray) (h : ps.length = 0) : rendR ps hs = [] := by
  unfold rendR; split
  · exact rendL_nil hs h
  · rfl
theorem hows_all {hs : List ByteArray} (h : ∀ i, i < hs.length → howB (nth hs i) = true) : hs.all howB = true := by
  rw [List.all_eq_true]
  intro x hx
  obtain ⟨i, hi, rfl⟩ := List.getElem_of_mem hx
  rw [← nth_eq hi]; exact h i hi
theorem rendB_yes {ps : Gs} {hs : List ByteArray} (h1 : vRows ps = true) (h2 : hs.length = colsN ps) (h3 : ∀ i, i < hs.length → howB (nth hs i) = true) : rendB ps hs = true := by
  unfold rendB; rw [h1, decide_eq_true h2, hows_all h3]; rfl
theorem rendB_rows {ps : Gs} {hs : List ByteArray} (h : vRows ps = false) : rendB ps hs = false := by unfold rendB; rw [h]; rfl
theorem rendB_len {ps : Gs} {hs : List ByteArray} (h : ¬ hs.length = colsN ps) : rendB ps hs = false := by unfold rendB; rw [decide_eq_false h]; simp
theorem rendB_how {ps : Gs} {hs : List ByteArray} {k : Nat} (hk : k < hs.length) (h : howB (nth hs k) = false) : rendB ps hs = false := by
  unfold rendB
  have : hs.all howB = false := by
    rw [List.all_eq_false]
    exact ⟨hs[k], List.getElem_mem hk, by rw [← nth_eq hk, h]; simp⟩
  rw [this, Bool.and_false]
theorem rendB_parts {ps : Gs} {hs : List ByteArray} (h : rendB ps hs = true) : vRows ps = true ∧ hs.length = colsN ps ∧ ∀ i, i < hs.length → howB (nth hs i) = true := by
  unfold rendB at h
  simp only [Bool.and_eq_true, decide_eq_true_eq, List.all_eq_true] at h
  exact ⟨h.1.1, h.1.2, fun i hi => by rw [nth_eq hi]; exact h.2 _ (List.getElem_mem hi)⟩

/-- a padded cell is the cell with spaces ahead and behind -/
theorem padB_shape {s : ByteArray} {wd : Nat} {h : ByteArray} (hv : validT s.data.toList = true) (h2 : wd ≤ 120) (hs : s.size ≤ wd) (hh : howB h = true) : ∃ i j, padB s wd h = padded i s j ∧ i + s.size + j = wd := by
  rcases howB_parts hh with e | e | e
  · exact ⟨0, wd - s.size, by rw [padB_left hv h2 e]; unfold padded; rw [sp0_app], by omega⟩
  · exact ⟨wd - s.size, 0, by rw [padB_right hv h2 e]; unfold padded; rw [app_sp0], by omega⟩
  · exact ⟨(wd - s.size) / 2, wd - s.size - (wd - s.size) / 2, by rw [padB_mid hv h2 e]; rfl, by omega⟩
theorem cellP_shape {ps : Gs} {hs : List ByteArray} (h : rendB ps hs = true) {i k : Nat} (hi : i < ps.length) (hk : k < colsN ps) : ∃ a b, cellP ps hs i k = padded a (nth (nthP ps i) k) b ∧ a + (nth (nthP ps i) k).size + b = wide (colL ps k) := by
  obtain ⟨h1, h2, h3⟩ := rendB_parts h
  exact padB_shape (colL_text h1 hk i hi) (by have := wide_col h1 hk; omega) (le_wide_col hi) (h3 k (by omega))
theorem cellP_size {ps : Gs} {hs : List ByteArray} (h : rendB ps hs = true) {i k : Nat} (hi : i < ps.length) (hk : k < colsN ps) : (cellP ps hs i k).size = wide (colL ps k) := by
  obtain ⟨a, b, e, hz⟩ := cellP_shape h hi hk
  rw [e, padded_size, hz]

/-- the length of a joined row -/
def totW (f : Nat → Nat) : Nat → Nat
  | 0 => 0
  | k + 1 => totW f k + (if k = 0 then 0 else 3) + f k
theorem drawL_succ (f : Nat → ByteArray) (n : Nat) : drawL f (n + 1) = drawL f n ++ [f n] := by
  unfold drawL; rw [List.range_succ, List.map_append]; rfl
theorem join_draw (f : Nat → ByteArray) : ∀ n, (joinB (drawL f n) barS).size = totW (fun k => (f k).size) n
  | 0 => by rw [show drawL f 0 = [] from rfl, joinB_nil]; rfl
  | 1 => by
    rw [show drawL f 1 = [f 0] from rfl, joinB_one]
    simp [totW]
  | n + 2 => by
    rw [drawL_succ, joinB_snoc (by intro e; have := congrArg List.length e; rw [drawL_len] at this; simp at this), ByteArray.size_append, ByteArray.size_append, join_draw f (n + 1)]
    conv => rhs; unfold totW
    rw [if_neg (by omega)]
    have : barS.size = 3 := rfl
    omega
theorem totW_congr {f g : Nat → Nat} : ∀ n, (∀ k, k < n → f k = g k) → totW f n = totW g n
  | 0, _ => rfl
  | n + 1, h => by unfold totW; rw [totW_congr n (fun k hk => h k (by omega)), h n (by omega)]
theorem totW_le {f : Nat → Nat} {M : Nat} : ∀ n, (∀ k, k < n → f k ≤ M) → totW f n ≤ (M + 3) * n
  | 0, _ => by simp [totW]
  | n + 1, h => by
    unfold totW
    have h1 := totW_le n (fun k hk => h k (by omega))
    have h2 := h n (by omega)
    rw [Nat.mul_succ]
    split <;> omega
theorem lineP_size {ps : Gs} {hs : List ByteArray} (h : rendB ps hs = true) {i : Nat} (hi : i < ps.length) : (lineP ps hs i).size = totW (fun k => wide (colL ps k)) (colsN ps) := by
  unfold lineP rowP
  rw [join_draw]
  exact totW_congr _ (fun k hk => cellP_size h hi hk)
theorem lineP_le {ps : Gs} {hs : List ByteArray} (h : rendB ps hs = true) {i : Nat} (hi : i < ps.length) : (lineP ps hs i).size ≤ 95 := by
  obtain ⟨h1, _, _⟩ := rendB_parts h
  have h5 := vRows_cols h1
  rw [lineP_size h hi]
  have := totW_le (f := fun k => wide (colL ps k)) (M := 16) (colsN ps) (fun k hk => wide_col h1 hk)
  omega
theorem rendR_sizes (ps : Gs) (hs : List ByteArray) : ∀ i, i < (rendR ps hs).length → (nth (rendR ps hs) i).size ≤ 95 := by
  intro i hi
  by_cases h : rendB ps hs = true
  · rw [rendR_yes h] at hi ⊢
    rw [rendL_len] at hi
    unfold rendL
    rw [drawL_nth _ hi]; exact lineP_le h hi
  · rw [rendR_no (by simpa using h)] at hi; simp at hi
theorem rendR_len (ps : Gs) (hs : List ByteArray) : (rendR ps hs).length ≤ 6 := by
  by_cases h : rendB ps hs = true
  · rw [rendR_yes h, rendL_len]; exact (vRows_parts (rendB_parts h).1).1
  · rw [rendR_no (by simpa using h)]; simp
end Go.Proofs.YtgfpbnafehpopaaDoor.pl
