/- Contracts: the exact laws' helpers on slices of strings that came in: szStringS, toStringS. -/
import Derived.Test.YtadlelcckalcoaaDoorMark
namespace Go.Proofs.YtadlelcckalcoaaDoor
open Go.RowKit
set_option maxRecDepth 100000

/-- a slice of strings that came in -/
def IsStrs (w : World) (a : Option Addr) (len cap : Nat) (ss : List ByteArray) : Prop :=
  (a = none ∧ len = 0 ∧ cap = 0 ∧ ss = []) ∨
  ∃ x, a = some x ∧ len ≤ cap ∧ cap ≤ maxLen ∧ ss.length = cap ∧ (∀ i, i < ss.length → w.cell? (x.add i) = some (.string (ss.getD i ByteArray.empty))) ∧ ∀ s ∈ ss, s.size ≤ maxLen

theorem IsStrs.reads {w : World} {a : Option Addr} {len cap : Nat} {ss : List ByteArray} (h : IsStrs w a len cap ss) :
    RStrs w (.slice a len cap) (ss.take len) ∧ (ss.take len).length = len ∧ len ≤ maxLen ∧ ∀ i, i < len → (nth (ss.take len) i).size ≤ maxLen := by
  rcases h with ⟨rfl, rfl, rfl, rfl⟩ | ⟨x, rfl, hl, hm, hz, hc, hw⟩
  · exact ⟨.inl ⟨rfl, _, _, rfl⟩, rfl, by unfold maxLen; omega, fun i h => by omega⟩
  · have hlen : (ss.take len).length = len := by rw [List.length_take]; omega
    have hnth : ∀ i, i < len → nth (ss.take len) i = ss.getD i ByteArray.empty := by
      intro i hi
      rw [nth_eq (by omega), List.getElem_take]
      simp [List.getD, show i < ss.length from by omega]
    refine ⟨?_, hlen, by omega, fun i hi => ?_⟩
    · by_cases h0 : len = 0
      · subst h0; exact .inl ⟨rfl, _, _, rfl⟩
      · obtain ⟨b, off, spot⟩ := x
        have hc0 := hc 0 (by omega)
        have hspot : spot = none := by simpa [Addr.add] using World.cell?_spot hc0
        subst hspot
        have hadd : ∀ i, (⟨b, off, none⟩ : Addr).add i = ⟨b, off + i, none⟩ := fun i => by unfold Addr.add; split <;> simp_all
        refine .inr ⟨by omega, b, off, cap, by rw [hlen], ?_, fun i hi => ?_⟩
        · have := World.block_lt_of_cell? w _ hc0
          rw [hadd] at this; exact this
        · rw [hlen] at hi
          rw [← hadd, hnth i hi]; exact hc i (by omega)
    · rw [hnth i hi]
      have hi' : i < ss.length := by omega
      have : ss.getD i ByteArray.empty = ss[i] := by simp [List.getD, hi']
      rw [this]; exact hw _ (List.getElem_mem hi')

def small (l : List ByteArray) : Prop := l.length ≤ 1048576 ∧ ∀ i, i < l.length → (nth l i).size ≤ 1048576

theorem own_store' {B g n cap j : Nat} {w : World} {l : List ByteArray} (h : w.ownsRow B 9 1 (.slice (some ⟨g, 0, none⟩) n cap) n (l.map Value.string)) (x : ByteArray) :
    (w.setCell ⟨g, j, none⟩ (.string x)).ownsRow B 9 1 (.slice (some ⟨g, 0, none⟩) n cap) n ((l.set j x).map Value.string) := (own_store h x).1

end Go.Proofs.YtadlelcckalcoaaDoor
