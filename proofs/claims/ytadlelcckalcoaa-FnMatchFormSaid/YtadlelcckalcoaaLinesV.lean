/- Contracts: lines are told by both sides (validLines). -/
import Derived.Test.YtadlelcckalcoaaPkB
import Derived.Test.YtadlelcckalcoaaValid
namespace Go.Proofs.Ytadlelcckalcoaa
open Go.RowKit
set_option maxRecDepth 100000

theorem RStrs.at {w wr : World} {a : Option Addr} {cap n : Nat} {l : List ByteArray} (h : RStrs w (.slice a n cap) l) (hn : n = l.length) (hb : Below w.heap.size w wr) {k : Nat} (hk : k < n) :
    ∃ b o, a = some ⟨b, o, none⟩ ∧ wr.cell? ⟨b, o + k, none⟩ = some (.string (nth l k)) := by
  rcases h with ⟨hz, _⟩ | ⟨hpos, b1, o1, c1, hvv, hb1, hc1⟩
  · rw [hz] at hn; simp at hn; omega
  · simp only [Value.slice.injEq] at hvv
    obtain ⟨rfl, _, rfl⟩ := hvv
    exact ⟨b1, o1, rfl, (hb.cell (p := ⟨b1, o1 + k, none⟩) hb1).trans (hc1 k (by omega))⟩

end Go.Proofs.Ytadlelcckalcoaa
