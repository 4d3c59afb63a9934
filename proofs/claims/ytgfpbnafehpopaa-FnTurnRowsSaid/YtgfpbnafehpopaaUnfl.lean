/- Contract: the program's UnflowLines. -/
import Derived.Test.YtgfpbnafehpopaaParts
import Derived.Test.YtgfpbnafehpopaaWords
import Derived.Laws.AppendOwnNone
namespace Go.Proofs.Ytgfpbnafehpopaa
open Go.RowKit
set_option maxRecDepth 100000

/-- a slice of slices of strings of the call's own, whatever its rows are -/
def HPs (B : Nat) (w : World) (v : Value) (ps : pl.Gs) : Prop := ∃ us, OPs B w v us ps
theorem HPs.reads {B : Nat} {w : World} {v : Value} {ps : pl.Gs} (h : HPs B w v ps) : RPs w v ps := by
  obtain ⟨us, h⟩ := h; exact h.reads
theorem HPs.below {B C : Nat} {w w' : World} {v : Value} {ps : pl.Gs} (h : HPs B w v ps) (hC : w.heap.size ≤ C) (hb : Below C w w') : HPs B w' v ps := by
  obtain ⟨us, h⟩ := h; exact ⟨us, h.below hC hb⟩
theorem HPs.nil (B : Nat) (w : World) : HPs B w (.slice none 0 0) [] := ⟨[], OPs.nil B w⟩
theorem OStrs.catP {B : Nat} {w' : World} {v' : Value} {l l2 : List ByteArray} (h : w'.ownsRow B 9 1 v' (l.length + l2.length) (l.map Value.string ++ l2.map Value.string)) : OStrs B w' v' (l ++ l2) := by
  unfold OStrs
  simpa using h
/-- one more row is pushed -/
theorem OPs.pushed {B C : Nat} {w w' : World} {o : Obj} {v v' : Value} {us : List Value} {ps : pl.Gs} {q : Value} {cur : List ByteArray} (h : OPs B w v us ps) (hq : OStrs C w q cur) (hB : B ≤ C) (hC : ∀ i k, i < us.length → (nthV us i).ownBlock = some k → k < C)
    (ho : w'.ownsRow B 27 1 v' (us.length + 1) (us ++ [q])) (hg : (w.alloc o).grownBy w' v.ownBlock) : OPs B w' v' (us ++ [q]) (ps ++ [cur]) := by
  have ho0 : (w.alloc o).ownsRow B 27 1 v us.length us := World.ownsRow.alloc h.1 o
  have hi0 : Inn B (w.alloc o) us ps := h.2.below (Nat.le_refl _) ((Below.refl _ _).alloc (Nat.le_refl _) _)
  have hi1 := hi0.outer ho0 hg
  have hq0 : OStrs C (w.alloc o) q cur := hq.alloc o
  have hq1 : OStrs C w' q cur := own_keep hq0 (fun k hk => hg.block k (World.ownsRow.lt hq0 k hk).2 (fun e => types_apart ho0 hq0 (by decide) k e.symm hk))
  refine ⟨by simpa using ho, hi1.push (hq1.mono hB) (fun i k hi2 hk e => ?_)⟩
  have h1 := hC i k hi2 hk
  have h2 := (World.ownsRow.lt hq1 k e).1
  omega
theorem OPs.lt {B : Nat} {w : World} {v : Value} {us : List Value} {ps : pl.Gs} (h : OPs B w v us ps) : ∀ i k, i < us.length → (nthV us i).ownBlock = some k → k < w.heap.size := fun i k hi hk => (h.2.lt i k hi hk).2

end Go.Proofs.Ytgfpbnafehpopaa
