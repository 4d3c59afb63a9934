/- Contracts: someWords, aWidth, and the draws made of them. -/
import Derived.Test.YtadlelcckalcoaaDraw2
import Derived.Test.YtadlelcckalcoaaPkB
namespace Go.Proofs.Ytadlelcckalcoaa
open Go.RowKit
set_option maxRecDepth 100000

theorem grown_then {row : Option Nat} {a b c : World} (h : a.grownBy b row) (k : Below a.heap.size b c) : a.grownBy c row :=
  ⟨k.os.trans h.os, k.tape.trans h.tape, k.output.trans h.output, Nat.le_trans h.size k.size, fun i hi hn => (k.block i hi).trans (h.block i hi hn)⟩
theorem OStrs.read {B g : Nat} {w w' : World} {v : Value} {l : List ByteArray} (h : OStrs B w v l) (hg : w.grownBy w' (some g)) (hlt : g < B) : OStrs B w' v l := by
  refine World.ownsRow.kept h hg ?_
  cases hv : v.ownBlock with
  | none => exact .inl rfl
  | some k =>
    right
    intro e
    have h1 := (World.ownsRow.lt h k hv).1
    injection e with e
    omega
def few (M : Nat) (l : List ByteArray) : Prop := ∀ i, i < l.length → (nth l i).size ≤ M
theorem few_nil (M : Nat) : few M [] := fun i h => by simp at h
theorem few_push {M : Nat} {l : List ByteArray} {x : ByteArray} (h : few M l) (hx : x.size ≤ M) : few M (l ++ [x]) := by
  intro i hi
  by_cases e : i < l.length
  · have : nth (l ++ [x]) i = nth l i := by rw [nth_eq hi, nth_eq e, List.getElem_append_left e]
    rw [this]; exact h i e
  · have e2 : i = l.length := by simp at hi; omega
    subst e2
    rw [nth_eq hi]; simpa using hx

def GotWords (q B g n c : Nat) (ao : Option Addr) (w : World) (e : Ending) (w' : World) : Prop :=
  ∃ v l, e = .returned v ∧ OStrs w.heap.size w' v l ∧ l.length ≤ 10 ∧ few 20 l ∧ ∃ p', p' ≤ q ∧ Rdr B g n c p' ao w' ∧ w.grownBy w' (some g)

end Go.Proofs.Ytadlelcckalcoaa
