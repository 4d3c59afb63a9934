/- Slices of fills that a call made. -/
import Derived.Test.YtadlelcckalcoaaPieces
import Derived.Test.YtadlelcckalcoaaDrawS
namespace Go.Proofs.Ytadlelcckalcoaa
open Go.RowKit
set_option maxRecDepth 100000
set_option linter.unusedVariables false

theorem infoFi2 : (Try.prog.info? 87).map (fun i => (i.zero, i.size, i.bytes)) = some (some (.agg #[.string ByteArray.empty, .string ByteArray.empty]), 2, 32) := by kernel_rfl
/-- v owns these fills -/
def OFi (B : Nat) (w : World) (v : Value) (ps : List pl.Pc) : Prop := OPr 87 B w v ps.length (pcV ps)
theorem OFi.below {B : Nat} {w w' : World} {v : Value} {ps : List pl.Pc} (h : OFi B w v ps) (hb : Below w.heap.size w w') : OFi B w' v ps := pr_below h hb
theorem OFi.push {B : Nat} {w : World} {v : Value} {ps : List pl.Pc} {n p : ByteArray} (h : w.ownsRow B 87 2 v (ps.length + 1) (pairC (pcV ps) ++ [.string n, .string p])) : OFi B w v (ps ++ [(n, p)]) := by
  unfold OFi OPr
  rw [List.length_append, List.length_singleton]
  have : pcV (ps ++ [(n, p)]) = pcV ps ++ [(.string n, .string p)] := by simp [pcV]
  rw [this, pairC_append]
  exact h
theorem OFi.reads {B : Nat} {w : World} {v : Value} {ps : List pl.Pc} (h : OFi B w v ps) : RPc w v ps := by
  have hw := h
  rcases h.2 with ⟨hv, hn⟩ | ⟨g, cap, cur, hv, hB, hg, hle, hm, hs, htake⟩
  · exact .inl ⟨List.length_eq_zero_iff.1 hn, none, 0, hv⟩
  · rcases Nat.eq_zero_or_pos ps.length with h0 | h0
    · exact .inl ⟨List.length_eq_zero_iff.1 h0, _, cap, by rw [hv, h0]⟩
    · refine .inr ⟨h0, g, 0, cap, hv, (Array.getElem?_eq_some_iff.1 hg).1, fun i hi => ?_⟩
      unfold OFi at hw
      rw [hv] at hw
      obtain ⟨h1, h2, _, _⟩ := pr_cells hw hi
      rw [pcV_nth hi] at h1 h2
      rw [Nat.zero_add]
      exact ⟨h1, h2⟩
theorem OFi.read {B g : Nat} {w w' : World} {v : Value} {ps : List pl.Pc} (h : OFi B w v ps) (hg : w.grownBy w' (some g)) (hlt : g < B) : OFi B w' v ps :=
  pr_keep h (fun k hk => hg.block k (World.ownsRow.lt h k hk).2 (fun e => by injection e with e; have := (World.ownsRow.lt h k hk).1; omega))
theorem OFi.made {D : Nat} {w : World} (hD : D ≤ w.heap.size) : OFi D (w.alloc (.cells #[] 87)) (.slice (some ⟨w.heap.size, 0, none⟩) 0 0) [] := World.ownsRow_made _ _ _ hD (by unfold maxLen; omega) rfl
end Go.Proofs.Ytadlelcckalcoaa
