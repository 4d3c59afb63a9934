/- Slices of numbers: such as a call made, such as can be read; the laws' eqIntS, equalInts, markIntS, heldIntS, toIntS. -/
import Derived.Test.YtpfheanpbbfpdaaDoorIntsO
import Derived.Test.YtpfheanpbbfpdaaDoorMark
import Derived.Test.YtpfheanpbbfpdaaDoorEq
import Derived.Test.YtpfheanpbbfpdaaDoorDraw2
namespace Go.Proofs.YtpfheanpbbfpdaaDoor
open Go.RowKit
set_option maxRecDepth 100000

/-- number i of a list -/
def nthI (l : List Int) (i : Nat) : Int := l.getD i 0
theorem nthI_eq {l : List Int} {i : Nat} (h : i < l.length) : nthI l i = l[i] := by simp [nthI, h]
theorem nthI_ext {a b : List Int} (hl : a.length = b.length) (h : ∀ i, i < a.length → nthI a i = nthI b i) : a = b := by
  apply List.ext_getElem hl
  intro i h1 h2
  rw [← nthI_eq h1, ← nthI_eq h2]
  exact h i h1
theorem nthI_set_same {l : List Int} {j : Nat} {x : Int} (h : j < l.length) : nthI (l.set j x) j = x := by
  rw [nthI_eq (by simpa using h)]; simp
theorem nthI_set_other {l : List Int} {j t : Nat} {x : Int} (h : t < l.length) (hne : t ≠ j) : nthI (l.set j x) t = nthI l t := by
  rw [nthI_eq (by simpa using h), nthI_eq h, List.getElem_set_ne (fun e => hne e.symm)]
/-- v is a slice of numbers that reads as l -/
def RInts (w : World) (v : Value) (l : List Int) : Prop :=
  (l = [] ∧ ∃ a cap, v = .slice a 0 cap) ∨ (0 < l.length ∧ ∃ b off cap, v = .slice (some ⟨b, off, none⟩) l.length cap ∧ b < w.heap.size ∧ ∀ i, i < l.length → w.cell? ⟨b, off + i, none⟩ = some (.int .i64 (nthI l i)))
theorem ints_reads {B n : Nat} {w : World} {v : Value} {l : List Int} (h : OInts B w v n l) (hn : n = l.length) : RInts w v l := by
  subst hn
  have hw := h
  rcases h.2 with ⟨hv, hn⟩ | ⟨g, cap, cur, hv, hB, hg, hle, hm, hs, htake⟩
  · exact .inl ⟨List.length_eq_zero_iff.1 hn, none, 0, hv⟩
  · by_cases h0 : l.length = 0
    · exact .inl ⟨List.length_eq_zero_iff.1 h0, _, cap, by rw [hv, h0]⟩
    · refine .inr ⟨by omega, g, 0, cap, hv, (Array.getElem?_eq_some_iff.1 hg).1, fun i hi => ?_⟩
      subst hv
      have := World.ownsRow.cellAt hw i (by omega)
      rw [Nat.zero_add, this, nthI_eq hi, List.getElem?_map, List.getElem?_eq_getElem hi]
      rfl
theorem RInts.below {C : Nat} {w w' : World} {v : Value} {l : List Int} (h : RInts w v l) (hC : w.heap.size ≤ C) (hb : Below C w w') : RInts w' v l := by
  rcases h with h | ⟨hp, b, off, cap, hv, hlt, hc⟩
  · exact .inl h
  · exact .inr ⟨hp, b, off, cap, hv, Nat.lt_of_lt_of_le hlt hb.size, fun i hi => by rw [hb.cell (by show b < C; omega)]; exact hc i hi⟩
theorem RInts.slice {w : World} {v : Value} {l : List Int} (h : RInts w v l) : ∃ a cap, v = .slice a l.length cap := by
  rcases h with ⟨hl, a, cap, hv⟩ | ⟨_, b, off, cap, hv, _⟩
  · exact ⟨a, cap, by rw [hv, hl]; rfl⟩
  · exact ⟨_, cap, hv⟩
theorem RInts.at {w wr : World} {a : Option Addr} {cap n : Nat} {l : List Int} (h : RInts w (.slice a n cap) l) (hn : n = l.length) (hb : Below w.heap.size w wr) {k : Nat} (hk : k < n) :
    ∃ b o, a = some ⟨b, o, none⟩ ∧ b < w.heap.size ∧ wr.cell? ⟨b, o + k, none⟩ = some (.int .i64 (nthI l k)) := by
  rcases h with ⟨hz, _⟩ | ⟨hpos, b1, o1, c1, hvv, hb1, hc1⟩
  · rw [hz] at hn; simp at hn; omega
  · simp only [Value.slice.injEq] at hvv
    obtain ⟨rfl, _, rfl⟩ := hvv
    exact ⟨b1, o1, rfl, hb1, (hb.cell (p := ⟨b1, o1 + k, none⟩) hb1).trans (hc1 k (by omega))⟩
/-- numbers that came in -/
theorem IsRow.ints {w : World} {a : Option Addr} {len cap : Nat} {zs : List Int} (h : IsRow .i64 w a len cap zs) : ∃ l, RInts w (.slice a len cap) l ∧ l.length = len ∧ ∀ x ∈ l, (Lit.int .i64 x).wf = true := by
  rcases h with ⟨rfl, rfl, rfl, rfl⟩ | ⟨x, rfl, hl, hm, hz, hc, hw⟩
  · exact ⟨[], .inl ⟨rfl, _, _, rfl⟩, rfl, fun x h => by simp at h⟩
  · have hlen : (zs.take len).length = len := by rw [List.length_take]; omega
    refine ⟨zs.take len, ?_, hlen, fun x hx => hw x (List.mem_of_mem_take hx)⟩
    by_cases h0 : len = 0
    · subst h0; exact .inl ⟨rfl, _, _, rfl⟩
    · obtain ⟨b, off, spot⟩ := x
      have hc0 := hc 0 (by omega)
      have hspot : spot = none := by simpa [Addr.add] using World.cell?_spot hc0
      subst hspot
      have hadd : ∀ i, (⟨b, off, none⟩ : Addr).add i = ⟨b, off + i, none⟩ := fun i => by unfold Addr.add; split <;> simp_all
      refine .inr ⟨by omega, b, off, cap, by rw [hlen], ?_, fun i hi => ?_⟩
      · have := World.block_lt_of_cell? w _ hc0
        rw [hadd] at this; exact this
      · rw [hlen] at hi
        have e : nthI (zs.take len) i = zs.getD i 0 := by
          rw [nthI_eq (by omega), List.getElem_take]; simp [List.getD, show i < zs.length from by omega]
        rw [← hadd, e]; exact hc i (by omega)

/-- n numbers from k on -/
def marksI (k n : Nat) : List Int := (List.range n).map fun i => ((k + i : Nat) : Int)
theorem marksI_len (k n : Nat) : (marksI k n).length = n := by simp [marksI]
theorem marksI_nth {k n i : Nat} (h : i < n) : nthI (marksI k n) i = ((k + i : Nat) : Int) := by
  rw [nthI_eq (by rw [marksI_len]; exact h)]; simp [marksI]
def IInv (k n j : Nat) (l : List Int) : Prop := l.length = n ∧ ∀ t, t < j → t < n → nthI l t = ((k + t : Nat) : Int)
theorem iinv_start {k n : Nat} {l : List Int} (h : l.length = n) : IInv k n 0 l := ⟨h, fun t ht => absurd ht (by omega)⟩
theorem iinv_step {k n j : Nat} {l : List Int} (h : IInv k n j l) (hj : j < n) : IInv k n (j + 1) (l.set j ((k + j : Nat) : Int)) := by
  refine ⟨by rw [List.length_set]; exact h.1, fun t ht hn => ?_⟩
  by_cases e : t = j
  · subst e; exact nthI_set_same (by rw [h.1]; exact hj)
  · rw [nthI_set_other (by rw [h.1]; exact hn) e]; exact h.2 t (by omega) hn
theorem iinv_done {k n : Nat} {l : List Int} (h : IInv k n n l) : l = marksI k n := by
  apply nthI_ext (by rw [h.1, marksI_len])
  intro i hi
  rw [h.1] at hi
  rw [marksI_nth hi, h.2 i hi hi]
theorem ints_at {B g n cap j : Nat} {w : World} {zs : List Int} (h : OInts B w (.slice (some ⟨g, 0, none⟩) n cap) n zs) (hl : zs.length = n) (hj : j < n) : w.cell? ⟨g, j, none⟩ = some (.int .i64 (nthI zs j)) :=
  ints_cell h hj (by rw [List.getElem?_eq_getElem (by omega), nthI_eq (by omega)])

end Go.Proofs.YtpfheanpbbfpdaaDoor
