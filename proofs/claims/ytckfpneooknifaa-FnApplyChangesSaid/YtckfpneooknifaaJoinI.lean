/- Slices of strings with their room; strings.Join of a piece of a slice. -/
import Derived.Test.YtckfpneooknifaaArgs
import Derived.Test.YtckfpneooknifaaLinesV
import Derived.Test.YtckfpneooknifaaShelf
import Derived.Test.YtckfpneooknifaaPkB
namespace Go.Proofs.Ytckfpneooknifaa
open Go.RowKit
set_option maxRecDepth 100000

/-- a slice of strings that can be read, and its room -/
def LStrs (w : World) (v : Value) (l : List ByteArray) : Prop := RStrs w v l ∧ ∃ a cap, v = .slice a l.length cap ∧ l.length ≤ cap
theorem OStrs.lreads {B : Nat} {w : World} {v : Value} {l : List ByteArray} (h : OStrs B w v l) : LStrs w v l := by
  refine ⟨h.reads, ?_⟩
  rcases h.2 with ⟨hv, hn⟩ | ⟨g, cap, cur, hv, hB, hg, hle, _⟩
  · exact ⟨none, 0, by rw [hv, hn], by omega⟩
  · exact ⟨_, cap, hv, hle⟩
theorem LStrs.below {C : Nat} {w w' : World} {v : Value} {l : List ByteArray} (h : LStrs w v l) (hC : w.heap.size ≤ C) (hb : Below C w w') : LStrs w' v l := ⟨h.1.below hC hb, h.2⟩

theorem RStrs.pre {w : World} {b o n cap k : Nat} {l : List ByteArray} (h : RStrs w (.slice (some ⟨b, o, none⟩) n cap) l) (hk : k ≤ l.length) : RStrs w (.slice (some ⟨b, o, none⟩) k cap) (l.take k) := by
  by_cases h0 : k = 0
  · subst h0; exact .inl ⟨rfl, _, _, rfl⟩
  · rcases h with ⟨hz, _⟩ | ⟨hpos, b1, o1, c1, hvv, hb1, hc1⟩
    · rw [hz] at hk; simp at hk; omega
    · simp only [Value.slice.injEq] at hvv
      obtain ⟨hbo, _, _⟩ := hvv
      simp only [Option.some.injEq, Addr.mk.injEq, and_true] at hbo
      obtain ⟨rfl, rfl⟩ := hbo
      have hkl : (l.take k).length = k := by rw [List.length_take]; omega
      refine .inr ⟨by omega, _, _, cap, by rw [hkl], hb1, fun i hi => ?_⟩
      rw [hkl] at hi
      rw [hc1 i (by omega), nth_eq (by omega), nth_eq (by omega), List.getElem_take]
end Go.Proofs.Ytckfpneooknifaa
