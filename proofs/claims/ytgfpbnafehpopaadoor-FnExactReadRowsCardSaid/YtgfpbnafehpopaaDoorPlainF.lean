/- Plain mathematics: folded texts. -/
import Derived.Test.YtgfpbnafehpopaaDoorPlainJ
namespace Go.Proofs.YtgfpbnafehpopaaDoor.pl

def sp1 : ByteArray := bs [32]
def foldB (s : ByteArray) : ByteArray := joinB (wordsOf s) sp1

/-- the bytes of the words, and one for each -/
def tl : List (List UInt8) → Nat
  | [] => 0
  | x :: r => 1 + x.length + tl r
theorem tl_spl (l : List UInt8) : ∀ cur, tl (spl cur l) ≤ cur.length + l.length + 1 := by
  induction l with
  | nil => intro cur; unfold spl; split <;> simp [tl]; omega
  | cons c r ih =>
    intro cur
    unfold spl
    by_cases h : c = 32
    · rw [if_pos h]
      have h1 := ih []
      simp only [List.length_nil] at h1
      split
      · simp only [List.length_cons]; omega
      · simp only [tl, List.length_cons]; omega
    · rw [if_neg h]
      have h1 := ih (cur ++ [c])
      simp only [List.length_append, List.length_cons, List.length_nil] at h1 ⊢
      omega
theorem tl_tail (r : List (List UInt8)) : (Lib.joinTail [32] r).length = tl r := by
  induction r with
  | nil => simp [Lib.joinTail, tl]
  | cons y r ih =>
    simp only [Lib.joinTail, tl, List.map_cons, List.flatten_cons, List.length_append, List.length_cons, List.length_nil] at ih ⊢
    omega
theorem join_tl (xs : List (List UInt8)) : (Lib.join xs [32]).length = tl xs - 1 := by
  cases xs with
  | nil => simp [Lib.join_nil, tl]
  | cons x r => rw [Lib.join_cons, List.length_append, tl_tail]; simp only [tl]; omega
theorem toL_map (d : List (List UInt8)) : toL (d.map bs) = d := by
  induction d with
  | nil => rfl
  | cons x r ih => simp only [toL, List.map_cons] at ih ⊢; rw [ih, bs_data]
theorem foldB_ok {s : ByteArray} (h : validT s.data.toList = true) : foldB s = bs (Lib.join (wordsL s.data.toList) [32]) := by
  unfold foldB joinB
  rw [wordsOf_ok h]
  unfold wordsB
  rw [toL_map]; rfl
theorem foldB_no {s : ByteArray} (h : validT s.data.toList = false) : foldB s = bs [] := by
  unfold foldB joinB
  rw [wordsOf_no h]; rfl
theorem foldB_size (s : ByteArray) : (foldB s).size ≤ s.size := by
  by_cases h : validT s.data.toList = true
  · rw [foldB_ok h, bs_size, join_tl]
    have h1 := tl_spl s.data.toList []
    rw [len_eq] at h1
    simp only [List.length_nil] at h1
    unfold wordsL; omega
  · rw [foldB_no (by simpa using h), bs_size]; simp
theorem foldB_size120 (s : ByteArray) : (foldB s).size ≤ 120 := by
  by_cases h : validT s.data.toList = true
  · have := foldB_size s; have := validT_size h; omega
  · rw [foldB_no (by simpa using h), bs_size]; simp
end Go.Proofs.YtgfpbnafehpopaaDoor.pl
