/- Plain mathematics: rows of texts, lines that are drawn, the longest line, lines that are changed. -/
import Derived.Test.YtgfpbnafehpopaaDoorStrs
import Derived.Test.YtgfpbnafehpopaaDoorPlainG
namespace Go.Proofs.YtgfpbnafehpopaaDoor.pl

/-- paragraph k -/
def nthP (ps : Gs) (k : Nat) : List ByteArray := ps.getD k []
theorem nthP_eq {ps : Gs} {k : Nat} (h : k < ps.length) : nthP ps k = ps[k] := by simp [nthP, h]
def totTo (ps : Gs) : Nat → Nat
  | 0 => 0
  | k + 1 => totTo ps k + (nthP ps k).length
theorem totTo_succ (ps : Gs) (k : Nat) : totTo ps (k + 1) = totTo ps k + (nthP ps k).length := rfl
theorem totTo_mono (ps : Gs) (k : Nat) : ∀ d, totTo ps k ≤ totTo ps (k + d)
  | 0 => Nat.le_refl _
  | d + 1 => Nat.le_trans (totTo_mono ps k d) (by rw [← Nat.add_assoc, totTo_succ]; omega)
theorem totTo_le {ps : Gs} {k m : Nat} (h : k ≤ m) : totTo ps k ≤ totTo ps m := by
  have := totTo_mono ps k (m - k)
  rwa [Nat.add_sub_cancel' h] at this
theorem totTo_flat (ps : Gs) : ∀ k, k ≤ ps.length → totTo ps k = (ps.take k).flatten.length
  | 0, _ => rfl
  | k + 1, h => by
    rw [totTo_succ, totTo_flat ps k (by omega), List.take_succ_eq_append_getElem (by omega), List.flatten_append, List.length_append, nthP_eq (by omega)]
    simp
theorem all_nthP {ps : Gs} {f : List ByteArray → Bool} (h : ∀ k, k < ps.length → f (nthP ps k) = true) : ps.all f = true := by
  rw [List.all_eq_true]
  intro p hp
  obtain ⟨k, hk, rfl⟩ := List.getElem_of_mem hp
  rw [← nthP_eq hk]; exact h k hk
theorem all_nthP_no {ps : Gs} {f : List ByteArray → Bool} {k : Nat} (hk : k < ps.length) (h : f (nthP ps k) = false) : ps.all f = false := by
  rw [List.all_eq_false]
  exact ⟨_, List.getElem_mem hk, by rw [← nthP_eq hk, h]; simp⟩
theorem all_at {ps : Gs} {f : List ByteArray → Bool} (h : ps.all f = true) {k : Nat} (hk : k < ps.length) : f (nthP ps k) = true := by
  rw [List.all_eq_true] at h
  rw [nthP_eq hk]; exact h _ (List.getElem_mem hk)
/-- what is drawn of n lines, each by its place: all of them, or none if one is no text -/
def drawL (f : Nat → ByteArray) (n : Nat) : List ByteArray := (List.range n).map f
theorem drawL_len (f : Nat → ByteArray) (n : Nat) : (drawL f n).length = n := by simp [drawL]
theorem drawL_nth (f : Nat → ByteArray) {n i : Nat} (h : i < n) : nth (drawL f n) i = f i := by
  rw [nth_eq (by rw [drawL_len]; exact h)]; simp [drawL]
/-- the length of the longest of the first k lines -/
def wideTo (l : List ByteArray) : Nat → Nat
  | 0 => 0
  | k + 1 => max (wideTo l k) (nth l k).size
def wide (l : List ByteArray) : Nat := wideTo l l.length
theorem wideTo_succ (l : List ByteArray) (k : Nat) : wideTo l (k + 1) = max (wideTo l k) (nth l k).size := rfl
theorem wideTo_le {l : List ByteArray} {M : Nat} : ∀ k, (∀ i, i < k → (nth l i).size ≤ M) → wideTo l k ≤ M
  | 0, _ => Nat.zero_le _
  | k + 1, h => by
    have h1 := wideTo_le k (fun i hi => h i (by omega))
    have h2 := h k (by omega)
    rw [wideTo_succ]; omega
theorem le_wideTo {l : List ByteArray} {i : Nat} : ∀ k, i < k → (nth l i).size ≤ wideTo l k
  | 0, h => absurd h (by omega)
  | k + 1, h => by
    rw [wideTo_succ]
    by_cases e : i = k
    · subst e; omega
    · have := le_wideTo (l := l) (i := i) k (by omega); omega
theorem nth_over {l : List ByteArray} {i : Nat} (h : l.length ≤ i) : nth l i = ByteArray.empty := by
  unfold nth; simp [List.getD, List.getElem?_eq_none h]
theorem le_wide (l : List ByteArray) (i : Nat) : (nth l i).size ≤ wide l := by
  by_cases h : i < l.length
  · exact le_wideTo _ h
  · rw [nth_over (by omega)]; exact Nat.zero_le _
end Go.Proofs.YtgfpbnafehpopaaDoor.pl
