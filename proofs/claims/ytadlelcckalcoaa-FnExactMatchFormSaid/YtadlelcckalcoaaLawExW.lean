/- The walk of FnExactWordsOf. -/
import Derived.Test.YtadlelcckalcoaaWords
import Derived.Test.YtadlelcckalcoaaMark
namespace Go.Proofs.Ytadlelcckalcoaa
open Go.RowKit
set_option maxRecDepth 100000

theorem eqStringS_same (l : List ByteArray) (va vb : Value) (w : World) (hA : RStrs w va l) (hB : RStrs w vb l) (hl : l.length ≤ 2000000) :
    Calls Try.prog 27 #[va, vb] w fun e w' => e = .returned (.bool true) ∧ Below w.heap.size w w' :=
  (eqStringS_any l l va vb w hA hB hl).mono fun e w' ⟨h1, h2⟩ => ⟨by rw [h1]; simp, h2⟩

/-- an owned slice stays while another one is marked that was made later -/
theorem OStrs.marked {B C : Nat} {w w' : World} {v u : Value} {l l' : List ByteArray} (h : OStrs B w v l) (hlt : ∀ k, v.ownBlock = some k → k < C) (hu : OStrs C w u l') (hg : w.grownBy w' u.ownBlock) : OStrs B w' v l := by
  refine World.ownsRow.kept h hg ?_
  cases hv : v.ownBlock with
  | none => exact .inl rfl
  | some k =>
    right
    intro e
    have h1 := hlt k hv
    have h2 := (World.ownsRow.lt hu k e.symm).1
    omega

/-- an owned slice stays while another one is marked that was made earlier -/
theorem OStrs.marked2 {B : Nat} {w w' : World} {v u : Value} {l : List ByteArray} (h : OStrs B w v l) (hlt : ∀ k, u.ownBlock = some k → k < B) (hg : w.grownBy w' u.ownBlock) : OStrs B w' v l := by
  refine World.ownsRow.kept h hg ?_
  cases hv : v.ownBlock with
  | none => exact .inl rfl
  | some k =>
    right
    intro e
    have h1 := hlt k e.symm
    have h2 := (World.ownsRow.lt h k hv).1
    omega

end Go.Proofs.Ytadlelcckalcoaa
