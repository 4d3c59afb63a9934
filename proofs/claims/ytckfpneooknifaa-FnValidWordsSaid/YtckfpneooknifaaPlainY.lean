/- Plain mathematics: justified lines. -/
import Derived.Test.YtckfpneooknifaaPlainC
import Derived.Test.YtckfpneooknifaaPkA
namespace Go.Proofs.Ytckfpneooknifaa.pl

def sz0 (l : List ByteArray) : Nat := (joinB l (bs [])).size
theorem jn_sizes {l : List ByteArray} : ∀ k, k + 1 ≤ l.length → (jn l sp1 (k + 1)).size = (jn l (bs []) (k + 1)).size + k
  | 0, h => by rw [jn_one _ (by omega), jn_one _ (by omega)]; rfl
  | k + 1, h => by
    have ih := jn_sizes (l := l) k (by omega)
    rw [jn_succ sp1 (by omega) (by omega), jn_succ (bs []) (by omega) (by omega)]
    simp only [ByteArray.size_append]
    rw [ih]
    have e1 : sp1.size = 1 := rfl
    have e2 : (bs []).size = 0 := rfl
    rw [e1, e2]; omega
theorem szJ_sz0 {l : List ByteArray} {p : Nat} (h : l.length = p + 1) : szJ l = sz0 l + p := by
  have := jn_sizes (l := l) p (by omega)
  rw [← h, jn_all, jn_all] at this
  exact this
/-- the line behind k words: q spaces between two, and one more behind the first r words -/
def jTo (q r : Nat) (l : List ByteArray) : Nat → ByteArray
  | 0 => bs []
  | 1 => nth l 0
  | k + 2 => jTo q r l (k + 1) ++ spB (if k < r then q + 1 else q) ++ nth l (k + 1)
theorem jTo_more {q r : Nat} {l : List ByteArray} {k : Nat} (h : k < r) : jTo q r l (k + 2) = jTo q r l (k + 1) ++ spB (q + 1) ++ nth l (k + 1) := by
  show jTo q r l (k + 1) ++ spB (if k < r then q + 1 else q) ++ nth l (k + 1) = _
  rw [if_pos h]
theorem jTo_less {q r : Nat} {l : List ByteArray} {k : Nat} (h : ¬ k < r) : jTo q r l (k + 2) = jTo q r l (k + 1) ++ spB q ++ nth l (k + 1) := by
  show jTo q r l (k + 1) ++ spB (if k < r then q + 1 else q) ++ nth l (k + 1) = _
  rw [if_neg h]
theorem jTo_size {q r : Nat} {l : List ByteArray} (hq : q ≤ 120) (h12 : ∀ x ∈ l, x.size ≤ 12) : ∀ k, k + 1 ≤ l.length → (jTo q r l (k + 1)).size ≤ 140 * (k + 1)
  | 0, h => by
    have := h12 (l[0]) (List.getElem_mem _)
    show (nth l 0).size ≤ _
    rw [nth_eq (by omega)]; omega
  | k + 1, h => by
    have ih := jTo_size (r := r) hq h12 k (by omega)
    have := h12 (l[k + 1]) (List.getElem_mem _)
    show (jTo q r l (k + 1) ++ spB (if k < r then q + 1 else q) ++ nth l (k + 1)).size ≤ _
    rw [ByteArray.size_append, ByteArray.size_append, spB_size, nth_eq (by omega)]
    split <;> omega
/-- JustifyWords -/
def justOK (l : List ByteArray) (wd : Int) : Bool := vWords l && decide (2 ≤ l.length) && inR wd (szJ l) 120
def justB (l : List ByteArray) (wd : Int) : ByteArray := if justOK l wd = true then jTo ((wd.toNat - sz0 l) / (l.length - 1)) ((wd.toNat - sz0 l) % (l.length - 1)) l l.length else bs []
theorem justB_no {l : List ByteArray} {wd : Int} (h : justOK l wd = false) : justB l wd = bs [] := by simp [justB, h]
theorem justOK_no {l : List ByteArray} {wd : Int} (h : vWords l = false ∨ l.length < 2 ∨ inR wd (szJ l) 120 = false) : justOK l wd = false := by
  unfold justOK
  rcases h with h | h | h
  · simp [h]
  · rw [decide_eq_false (p := 2 ≤ l.length) (by omega)]; simp
  · simp [h]
theorem justOK_yes {l : List ByteArray} {wd : Int} (h1 : vWords l = true) (h2 : 2 ≤ l.length) (h3 : inR wd (szJ l) 120 = true) : justOK l wd = true := by
  unfold justOK
  rw [h1, h3, decide_eq_true h2]; rfl
theorem justB_yes {l : List ByteArray} {wd : Int} {p B : Nat} (h : justOK l wd = true) (hp : l.length = p + 1) (hB : wd - (sz0 l : Int) = B) : justB l wd = jTo (B / p) (B % p) l (p + 1) := by
  unfold justB
  rw [if_pos h, hp, show wd.toNat - sz0 l = B from by omega]; rfl
theorem div_int (B p : Nat) : (B : Int) / (p : Int) = ((B / p : Nat) : Int) := (Int.natCast_ediv B p).symm
theorem mod_int (B p : Nat) : (B : Int) % (p : Int) = ((B % p : Nat) : Int) := (Int.natCast_emod B p).symm
end Go.Proofs.Ytckfpneooknifaa.pl
