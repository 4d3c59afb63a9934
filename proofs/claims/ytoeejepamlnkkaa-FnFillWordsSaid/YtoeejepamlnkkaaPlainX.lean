/- Plain mathematics: pieces of a list of words, sums and least costs over them. -/
import Derived.Test.YtoeejepamlnkkaaPlainB
namespace Go.Proofs.Ytoeejepamlnkkaa.pl

def pc (l : List ByteArray) (i k : Nat) : List ByteArray := (l.drop i).take (k - i)
theorem pc_len {l : List ByteArray} {i k : Nat} (h : k ≤ l.length) : (pc l i k).length = k - i := by
  unfold pc; rw [List.length_take, List.length_drop]; omega
theorem pc_one {l : List ByteArray} {i : Nat} (h : i < l.length) : pc l i (i + 1) = [nth l i] := by
  unfold pc
  rw [show i + 1 - i = 1 from by omega, List.drop_eq_getElem_cons h, nth_eq h]; rfl
theorem pc_succ {l : List ByteArray} {i k : Nat} (h : i ≤ k) (hk : k < l.length) : pc l i (k + 1) = pc l i k ++ [nth l k] := by
  unfold pc
  rw [show k + 1 - i = (k - i) + 1 from by omega, List.take_succ_eq_append_getElem (by rw [List.length_drop]; omega), List.getElem_drop, nth_eq hk]
  congr 3
  omega
theorem drop_nth {l : List ByteArray} {k : Nat} (h : k < l.length) : l.drop k = nth l k :: l.drop (k + 1) := by
  rw [List.drop_eq_getElem_cons h, nth_eq h]
theorem drop_end {l : List ByteArray} : l.drop l.length = [] := List.drop_of_length_le (Nat.le_refl _)
theorem pc_nth {l : List ByteArray} {i k j : Nat} (hk : k ≤ l.length) (hj : j < k - i) : nth (pc l i k) j = nth l (i + j) := by
  rw [nth_eq (by rw [pc_len hk]; exact hj), nth_eq (by omega)]
  unfold pc
  rw [List.getElem_take, List.getElem_drop]

/-- what is still to be added, at the piece up to k -/
def remW (wd : Int) (l : List ByteArray) (i k : Nat) : Nat := if k ≤ l.length then wS wd (pc l i k) (l.drop k) else 0
theorem remW_start {wd : Int} {l : List ByteArray} {i : Nat} (h : i < l.length) : remW wd l i (i + 1) = wF wd (l.drop i) := by
  unfold remW
  rw [if_pos (by omega), pc_one h, drop_nth h]; rfl
theorem remW_no {wd : Int} {l : List ByteArray} {i k : Nat} (h : fitL wd (pc l i k) = false) : remW wd l i k = 0 := by
  unfold remW; split
  · exact wS_no h _
  · rfl
theorem remW_end {wd : Int} {l : List ByteArray} {i : Nat} : remW wd l i (l.length + 1) = 0 := by
  unfold remW; rw [if_neg (by omega)]
theorem remW_step {wd : Int} {l : List ByteArray} {i k : Nat} (hik : i ≤ k) (hk : k ≤ l.length) (h : fitL wd (pc l i k) = true) : remW wd l i k = wF wd (l.drop k) + remW wd l i (k + 1) := by
  unfold remW
  rw [if_pos hk]
  by_cases e : k = l.length
  · subst e
    rw [if_neg (by omega), drop_end, wS_nil h]; rfl
  · rw [if_pos (by omega), drop_nth (by omega), wS_cons h, pc_succ hik (by omega)]
theorem wF_le (wd : Int) (l : List ByteArray) (h : l.length ≤ 9) : wF wd l ≤ 256 := by
  rw [← waysN_eq]
  have h1 := cntF_le (fun b => fitG wd (wayB b l l.length)) (2 ^ (l.length - 1))
  have h2 : 2 ^ (l.length - 1) ≤ 2 ^ 8 := Nat.pow_le_pow_right (by omega) (by omega)
  unfold waysN; omega
end Go.Proofs.Ytoeejepamlnkkaa.pl
