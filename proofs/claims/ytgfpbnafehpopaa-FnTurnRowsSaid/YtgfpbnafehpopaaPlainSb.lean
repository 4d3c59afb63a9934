/- Plain mathematics: lines beside others, boxes, and what they hold. -/
import Derived.Test.YtgfpbnafehpopaaPlainQt
import Derived.Test.YtgfpbnafehpopaaPlainP
namespace Go.Proofs.Ytgfpbnafehpopaa.pl

/-- the length of the longest of the first k lines -/
def wideTo (l : List ByteArray) : Nat → Nat
  | 0 => 0
  | k + 1 => max (wideTo l k) (nth l k).size
def wide (l : List ByteArray) : Nat := wideTo l l.length
theorem wideTo_succ (l : List ByteArray) (k : Nat) : wideTo l (k + 1) = max (wideTo l k) (nth l k).size := rfl
theorem wideTo_le {l : List ByteArray} {M : Nat} : ∀ k, (∀ i, i < k → (nth l i).size ≤ M) → wideTo l k ≤ M
  | 0, _ => Nat.zero_le _
  | k + 1, h => by
    have h1 := wideTo_le k (fun i hi => h i (by omega))
    have h2 := h k (by omega)
    rw [wideTo_succ]; omega
theorem le_wideTo {l : List ByteArray} {i : Nat} : ∀ k, i < k → (nth l i).size ≤ wideTo l k
  | 0, h => absurd h (by omega)
  | k + 1, h => by
    rw [wideTo_succ]
    by_cases e : i = k
    · subst e; omega
    · have := le_wideTo (l := l) (i := i) k (by omega); omega
theorem nth_over {l : List ByteArray} {i : Nat} (h : l.length ≤ i) : nth l i = ByteArray.empty := by
  unfold nth; simp [List.getD, List.getElem?_eq_none h]
theorem le_wide (l : List ByteArray) (i : Nat) : (nth l i).size ≤ wide l := by
  by_cases h : i < l.length
  · exact le_wideTo _ h
  · rw [nth_over (by omega)]; exact Nat.zero_le _
theorem wide_120 {l : List ByteArray} (h : validLs l = true) : wide l ≤ 120 := wideTo_le _ (validLs_size h)

/-- a line of those beside others -/
def sideF (a b : List ByteArray) (g i : Nat) : ByteArray := nth a i ++ spB (wide a - (nth a i).size) ++ spB g ++ nth b i
def sideL (a b : List ByteArray) (g : Nat) : List ByteArray := drawL (sideF a b g) (max a.length b.length)
def sideB (a b : List ByteArray) (g : Int) : Bool := validLs a && validLs b && inR g 0 10 && validLs (sideL a b g.toNat)
def sideR (a b : List ByteArray) (g : Int) : List ByteArray := if sideB a b g = true then sideL a b g.toNat else []
theorem spB_add (m n : Nat) : spB m ++ spB n = spB (m + n) := by
  apply ba_ext
  rw [ByteArray.data_append, Array.toList_append]
  show spL m ++ spL n = spL (m + n)
  unfold spL; rw [List.replicate_append_replicate]
theorem app_assoc3 (a b c : ByteArray) : a ++ b ++ c = a ++ (b ++ c) := by
  apply ba_ext; simp [ByteArray.data_append, Array.toList_append]
theorem sideF_pad (a b : List ByteArray) (g i : Nat) : sideF a b g i = nth a i ++ spB (wide a + g - (nth a i).size) ++ nth b i := by
  have h := le_wide a i
  unfold sideF
  rw [app_assoc3 (nth a i), spB_add, show wide a - (nth a i).size + g = wide a + g - (nth a i).size by omega]
theorem sideF_size (a b : List ByteArray) (g i : Nat) : (sideF a b g i).size = wide a + g + (nth b i).size := by
  have h := le_wide a i
  rw [sideF_pad, ByteArray.size_append, ByteArray.size_append, spB_size]; omega

/-- an edge of a box, and its lines -/
def dashL (n : Nat) : List UInt8 := List.replicate n 45
def dashB (n : Nat) : ByteArray := bs (dashL n)
theorem dashB_size (n : Nat) : (dashB n).size = n := by simp [dashB, bs_size, dashL]
theorem rep_dashL : ∀ m, Lib.repeatL [45] m = dashL m
  | 0 => rfl
  | m + 1 => by
    show [45] ++ Lib.repeatL [45] m = dashL (m + 1)
    rw [rep_dashL m]; rfl
theorem rep_dash (n : Nat) : Lib.repeatL (ByteArray.mk #[45]).data.toList n = dashL n := rep_dashL n
theorem dashB_zero : dashB 0 = ⟨#[]⟩ := rfl
theorem dashB_succ (n : Nat) : dashB n ++ ⟨#[45]⟩ = dashB (n + 1) := by
  apply ba_ext
  rw [ByteArray.data_append, Array.toList_append]
  show dashL n ++ [45] = dashL (n + 1)
  unfold dashL; rw [List.replicate_succ']
def edgeB (w : Nat) : ByteArray := ⟨#[43]⟩ ++ dashB (w + 2) ++ ⟨#[43]⟩
theorem edgeB_size (w : Nat) : (edgeB w).size = w + 4 := by
  have z1 : (ByteArray.mk #[43]).size = 1 := rfl
  unfold edgeB; rw [ByteArray.size_append, ByteArray.size_append, dashB_size]; omega
def barF (s : ByteArray) (w : Nat) : ByteArray := ⟨#[124, 32]⟩ ++ (s ++ spB (w - s.size)) ++ ⟨#[32, 124]⟩
theorem barF_size {s : ByteArray} {w : Nat} (h : s.size ≤ w) : (barF s w).size = w + 4 := by
  have z1 : (ByteArray.mk #[124, 32]).size = 2 := rfl
  have z2 : (ByteArray.mk #[32, 124]).size = 2 := rfl
  unfold barF; rw [ByteArray.size_append, ByteArray.size_append, ByteArray.size_append, spB_size]; omega
def boxF (l : List ByteArray) (i : Nat) : ByteArray := if i = 0 ∨ l.length < i then edgeB (wide l) else barF (nth l (i - 1)) (wide l)
theorem boxF_edge {l : List ByteArray} {i : Nat} (h : i = 0 ∨ l.length < i) : boxF l i = edgeB (wide l) := by unfold boxF; rw [if_pos h]
theorem boxF_bar {l : List ByteArray} {i : Nat} (h1 : ¬ i = 0) (h2 : ¬ l.length < i) : boxF l i = barF (nth l (i - 1)) (wide l) := by unfold boxF; rw [if_neg (by omega)]
theorem boxF_size (l : List ByteArray) (i : Nat) : (boxF l i).size = wide l + 4 := by
  unfold boxF; split
  · exact edgeB_size _
  · exact barF_size (le_wide _ _)
def boxL (l : List ByteArray) : List ByteArray := drawL (boxF l) (l.length + 2)
theorem boxL_len (l : List ByteArray) : (boxL l).length = l.length + 2 := drawL_len _ _
def boxB (l : List ByteArray) : Bool := decide (l.length ≤ 18) && validLs l && validLs (boxL l)
def boxR (l : List ByteArray) : List ByteArray := if boxB l = true then boxL l else []

/-- what a line of a box holds -/
def coreS (s : ByteArray) : ByteArray := bs (rtrim (seg s.data.toList 2 (s.size - 2)))
def heldL (l : List ByteArray) : List ByteArray := (List.range (l.length - 2)).map fun i => coreS (nth l (i + 1))
def wideEnough (l : List ByteArray) : Bool := (List.range (l.length - 2)).all fun i => decide (4 ≤ (nth l (i + 1)).size)
def unboxB (l : List ByteArray) : Bool := decide (2 ≤ l.length) && wideEnough l && boxB (heldL l) && decide (boxL (heldL l) = l)
def unboxR (l : List ByteArray) : List ByteArray := if unboxB l = true then heldL l else []
theorem heldL_len (l : List ByteArray) : (heldL l).length = l.length - 2 := by simp [heldL]
theorem heldL_nth {l : List ByteArray} {i : Nat} (h : i < l.length - 2) : nth (heldL l) i = coreS (nth l (i + 1)) := by
  rw [nth_eq (by rw [heldL_len]; exact h)]; simp [heldL]
theorem wideEnough_nth {l : List ByteArray} (h : wideEnough l = true) {i : Nat} (hi : i < l.length - 2) : 4 ≤ (nth l (i + 1)).size := by
  unfold wideEnough at h
  rw [List.all_eq_true] at h
  exact of_decide_eq_true (h i (List.mem_range.2 hi))
theorem wideEnough_no {l : List ByteArray} {i : Nat} (hi : i < l.length - 2) (h : ¬ 4 ≤ (nth l (i + 1)).size) : wideEnough l = false := by
  unfold wideEnough
  rw [List.all_eq_false]
  exact ⟨i, List.mem_range.2 hi, by simpa using h⟩
theorem wideEnough_yes {l : List ByteArray} (h : ∀ i, i < l.length - 2 → 4 ≤ (nth l (i + 1)).size) : wideEnough l = true := by
  unfold wideEnough
  rw [List.all_eq_true]
  intro i hi
  exact decide_eq_true (h i (List.mem_range.1 hi))
end Go.Proofs.Ytgfpbnafehpopaa.pl
