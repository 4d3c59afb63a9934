/- Plain mathematics: costs of lines, least widths, justified lines. -/
import Derived.Test.YtckfpneooknifaaPkB
namespace Go.Proofs.Ytckfpneooknifaa.pl

/-- the sum of the squares of what the first k lines miss -/
def costTo (wd : Int) (z : Nat → Int) : Nat → Int
  | 0 => 0
  | k + 1 => costTo wd z k + (wd - z k) * (wd - z k)
theorem sq_nn (a : Int) : 0 ≤ a * a := by
  rcases Int.le_total 0 a with h | h
  · exact Int.mul_nonneg h h
  · exact Int.mul_nonneg_of_nonpos_of_nonpos h h
theorem costTo_succ (wd : Int) (z : Nat → Int) (k : Nat) : costTo wd z (k + 1) = costTo wd z k + (wd - z k) * (wd - z k) := rfl
theorem miss_bound {wd a : Int} (h0 : 0 ≤ a) (h1 : a ≤ wd) (h2 : wd ≤ 120) : 0 ≤ (wd - a) * (wd - a) ∧ (wd - a) * (wd - a) ≤ 14400 := by
  have a1 : 0 ≤ wd - a := by omega
  have a2 : wd - a ≤ 120 := by omega
  exact ⟨Int.mul_nonneg a1 a1, Int.mul_le_mul a2 a2 a1 (by omega)⟩
theorem costTo_bound {wd : Int} {z : Nat → Int} (hw : wd ≤ 120) : ∀ k : Nat, (∀ i, i < k → 0 ≤ z i ∧ z i ≤ wd) → 0 ≤ costTo wd z k ∧ costTo wd z k ≤ 14400 * k
  | 0, _ => by simp [costTo]
  | k + 1, h => by
    have ih := costTo_bound hw k (fun i hi => h i (by omega))
    have h1 := h k (by omega)
    have h2 := miss_bound h1.1 h1.2 hw
    rw [costTo_succ]
    refine ⟨by omega, ?_⟩
    have : (14400 : Int) * ((k + 1 : Nat) : Int) = 14400 * k + 14400 := by omega
    omega
theorem costTo_congr {wd : Int} {z y : Nat → Int} : ∀ k : Nat, (∀ i, i < k → z i = y i) → costTo wd z k = costTo wd y k
  | 0, _ => rfl
  | k + 1, h => by rw [costTo_succ, costTo_succ, costTo_congr k (fun i hi => h i (by omega)), h k (by omega)]
def lsz (l : List ByteArray) (i : Nat) : Int := ((nth l i).size : Int)
def costL (l : List ByteArray) (wd : Int) : Int := costTo wd (lsz l) (l.length - 1)
def costR (l : List ByteArray) (wd : Int) : Int := if (validLs l && inR wd 1 120 && shortAll l wd) = true then costL l wd else -1
theorem costR_yes {l : List ByteArray} {wd : Int} (h1 : validLs l = true) (h2 : inR wd 1 120 = true) (h3 : shortAll l wd = true) : costR l wd = costL l wd := by simp [costR, h1, h2, h3]
theorem costR_no {l : List ByteArray} {wd : Int} (h : validLs l = false ∨ inR wd 1 120 = false ∨ shortAll l wd = false) : costR l wd = -1 := by
  unfold costR
  rcases h with h | h | h <;> simp [h]

/-- the first of f numbers from k on that has p -/
def firstP (p : Nat → Bool) : Nat → Nat → Nat × Bool
  | 0, _ => (0, false)
  | f + 1, k => if p k = true then (k, true) else firstP p f (k + 1)
theorem firstP_yes {p : Nat → Bool} {f k : Nat} (h : p k = true) : firstP p (f + 1) k = (k, true) := by simp [firstP, h]
theorem firstP_no {p : Nat → Bool} {f k : Nat} (h : p k = false) : firstP p (f + 1) k = firstP p f (k + 1) := by simp [firstP, h]
theorem firstP_le {p : Nat → Bool} : ∀ f k, (firstP p f k).1 ≤ k + f
  | 0, k => by simp [firstP]
  | f + 1, k => by
    unfold firstP; split
    · show k ≤ _; omega
    · have := firstP_le (p := p) f (k + 1); omega
def lwP (l : List ByteArray) (n : Int) (w : Nat) : Bool := fitA l w && decide (((wrapB w l).length : Int) ≤ n)
def leastR (l : List ByteArray) (n : Int) : Nat × Bool := if (vWords l && inR n 1 9) = true then firstP (lwP l n) 120 1 else (0, false)
theorem leastR_yes {l : List ByteArray} {n : Int} (h1 : vWords l = true) (h2 : inR n 1 9 = true) : leastR l n = firstP (lwP l n) 120 1 := by simp [leastR, h1, h2]
theorem leastR_no {l : List ByteArray} {n : Int} (h : vWords l = false ∨ inR n 1 9 = false) : leastR l n = (0, false) := by
  unfold leastR
  rcases h with h | h <;> simp [h]
end Go.Proofs.Ytckfpneooknifaa.pl
