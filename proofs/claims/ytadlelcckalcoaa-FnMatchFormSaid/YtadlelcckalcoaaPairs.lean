/- Slices of pairs (structs of two fields) that a call made. -/
import Derived.Test.YtadlelcckalcoaaParts
import Derived.Laws.Rows
namespace Go.Proofs.Ytadlelcckalcoaa
open Go.RowKit
set_option maxRecDepth 100000
set_option linter.unusedVariables false

abbrev Pr := Value × Value
def pairC : List Pr → List Value
  | [] => []
  | p :: r => p.1 :: p.2 :: pairC r
theorem pairC_len : ∀ cs, (pairC cs).length = cs.length * 2
  | [] => rfl
  | p :: r => by unfold pairC; simp [pairC_len r]; omega
def nthC (cs : List Pr) (i : Nat) : Pr := cs.getD i (.slice none 0 0, .slice none 0 0)
theorem nthC_eq {cs : List Pr} {i : Nat} (h : i < cs.length) : nthC cs i = cs[i] := by simp [nthC, h]
theorem pairC_get : ∀ {cs : List Pr} {i : Nat}, i < cs.length → (pairC cs)[i * 2]? = some (nthC cs i).1 ∧ (pairC cs)[i * 2 + 1]? = some (nthC cs i).2
  | [], i, h => by simp at h
  | p :: r, 0, _ => by unfold pairC; simp [nthC]
  | p :: r, i + 1, h => by
    have ih := pairC_get (cs := r) (i := i) (by simpa using h)
    have e : nthC (p :: r) (i + 1) = nthC r i := by simp [nthC]
    unfold pairC
    rw [e, show (i + 1) * 2 = i * 2 + 1 + 1 from by omega, show i * 2 + 1 + 1 + 1 = (i * 2 + 1) + 1 + 1 from rfl]
    rw [List.getElem?_cons_succ, List.getElem?_cons_succ, List.getElem?_cons_succ, List.getElem?_cons_succ]
    exact ih
theorem pairC_set0 : ∀ (cs : List Pr) (i : Nat) (u : Value), i < cs.length → (pairC cs).set (i * 2) u = pairC (cs.set i (u, (nthC cs i).2))
  | [], i, u, h => by simp at h
  | p :: r, 0, u, _ => by unfold pairC; simp [nthC]
  | p :: r, i + 1, u, h => by
    have ih := pairC_set0 r i u (by simpa using h)
    have e : nthC (p :: r) (i + 1) = nthC r i := by simp [nthC]
    rw [e, List.set_cons_succ]
    show (p.1 :: p.2 :: pairC r).set ((i + 1) * 2) u = p.1 :: p.2 :: pairC (r.set i (u, (nthC r i).2))
    rw [show (i + 1) * 2 = i * 2 + 1 + 1 from by omega, List.set_cons_succ, List.set_cons_succ, ih]
theorem pairC_set1 : ∀ (cs : List Pr) (i : Nat) (x : Value), i < cs.length → (pairC cs).set (i * 2 + 1) x = pairC (cs.set i ((nthC cs i).1, x))
  | [], i, x, h => by simp at h
  | p :: r, 0, x, _ => by unfold pairC; simp [nthC]
  | p :: r, i + 1, x, h => by
    have ih := pairC_set1 r i x (by simpa using h)
    have e : nthC (p :: r) (i + 1) = nthC r i := by simp [nthC]
    rw [e, List.set_cons_succ]
    show (p.1 :: p.2 :: pairC r).set ((i + 1) * 2 + 1) x = p.1 :: p.2 :: pairC (r.set i ((nthC r i).1, x))
    rw [show (i + 1) * 2 + 1 = (i * 2 + 1) + 1 + 1 from by omega, List.set_cons_succ, List.set_cons_succ, ih]
theorem nthC_same {cs : List Pr} {i : Nat} {q : Pr} (h : i < cs.length) : nthC (cs.set i q) i = q := by
  rw [nthC_eq (by simpa using h)]; simp
theorem nthC_other {cs : List Pr} {i j : Nat} {q : Pr} (hj : j < cs.length) (h : j ≠ i) : nthC (cs.set i q) j = nthC cs j := by
  rw [nthC_eq (by simpa using hj), nthC_eq hj, List.getElem_set_ne (fun e => h e.symm)]
theorem made_pairs (a b : Value) (n : Nat) : (madeCells #[a, b] (n * 2)).toList = pairC (List.replicate n (a, b)) := by
  apply List.ext_getElem?
  intro j
  have hl : (pairC (List.replicate n (a, b))).length = n * 2 := by rw [pairC_len, List.length_replicate]
  by_cases hj : j < n * 2
  · have hi : j / 2 < (List.replicate n (a, b)).length := by rw [List.length_replicate]; omega
    obtain ⟨h0, h1⟩ := pairC_get hi
    have e : nthC (List.replicate n (a, b)) (j / 2) = (a, b) := by rw [nthC_eq hi]; simp
    rw [e] at h0 h1
    rcases Nat.mod_two_eq_zero_or_one j with hm | hm
    · have hj2 : j / 2 * 2 = j := by omega
      rw [hj2] at h0
      rw [h0]
      simp [madeCells, hj, hm]
    · have hj2 : j / 2 * 2 + 1 = j := by omega
      rw [hj2] at h1
      rw [h1]
      simp [madeCells, hj, hm]
  · have e1 : (pairC (List.replicate n (a, b)))[j]? = none := List.getElem?_eq_none (by rw [hl]; omega)
    have e2 : (madeCells #[a, b] (n * 2)).toList[j]? = none := List.getElem?_eq_none (by rw [Array.length_toList, size_madeCells]; omega)
    rw [e1, e2]

/-- v owns these pairs -/
abbrev OPr (E : TypeId) (B : Nat) (w : World) (v : Value) (n : Nat) (cs : List Pr) : Prop := w.ownsRow B E 2 v n (pairC cs)
theorem pr_len {E : TypeId} {B n : Nat} {w : World} {v : Value} {cs : List Pr} (h : OPr E B w v n cs) : cs.length = n := by
  have := h.1
  rw [pairC_len] at this; omega
theorem pr_keep {E : TypeId} {B n : Nat} {w w' : World} {v : Value} {cs : List Pr} (h : OPr E B w v n cs) (hk : ∀ k, v.ownBlock = some k → w'.heap[k]? = w.heap[k]?) : OPr E B w' v n cs := by
  refine ⟨h.1, ?_⟩
  rcases h.2 with hn | ⟨g, cap, cur, rfl, hb, hgg, rest⟩
  · exact .inl hn
  · exact .inr ⟨g, cap, cur, rfl, hb, by rw [hk g rfl]; exact hgg, rest⟩
theorem pr_below {E : TypeId} {B n : Nat} {w w' : World} {v : Value} {cs : List Pr} (h : OPr E B w v n cs) (hb : Below w.heap.size w w') : OPr E B w' v n cs :=
  pr_keep h (fun k hk => hb.block k (World.ownsRow.lt h k hk).2)
theorem pr_cells {E : TypeId} {B g n cap i : Nat} {w : World} {cs : List Pr} (h : OPr E B w (.slice (some ⟨g, 0, none⟩) n cap) n cs) (hi : i < n) :
    w.cell? ⟨g, i * 2, none⟩ = some (nthC cs i).1 ∧ w.cell? ⟨g, i * 2 + 1, none⟩ = some (nthC cs i).2 ∧ w.frozen? ⟨g, i * 2, none⟩ = false ∧ w.frozen? ⟨g, i * 2 + 1, none⟩ = false := by
  have hl := pr_len h
  obtain ⟨h0, h1⟩ := pairC_get (cs := cs) (i := i) (by omega)
  exact ⟨by rw [World.ownsRow.cellAt h _ (by omega)]; exact h0, by rw [World.ownsRow.cellAt h _ (by omega)]; exact h1, World.ownsRow.frozenAt h _, World.ownsRow.frozenAt h _⟩
/-- the first field of a pair is written -/
theorem pr_store0 {E : TypeId} {B g n cap i : Nat} {w : World} {cs : List Pr} (h : OPr E B w (.slice (some ⟨g, 0, none⟩) n cap) n cs) (hi : i < n) (u : Value) :
    OPr E B (w.setCell ⟨g, i * 2, none⟩ u) (.slice (some ⟨g, 0, none⟩) n cap) n (cs.set i (u, (nthC cs i).2)) ∧ w.grownBy (w.setCell ⟨g, i * 2, none⟩ u) (some g) := by
  have := World.ownsRow.stored h (i * 2) u
  rw [pairC_set0 cs i u (by rw [pr_len h]; exact hi)] at this
  exact this
/-- a pair is written -/
theorem pr_store {E : TypeId} {B g n cap i : Nat} {w : World} {cs : List Pr} (h : OPr E B w (.slice (some ⟨g, 0, none⟩) n cap) n cs) (hi : i < n) (u x : Value) :
    OPr E B ((w.setCell ⟨g, i * 2, none⟩ u).setCell ⟨g, i * 2 + 1, none⟩ x) (.slice (some ⟨g, 0, none⟩) n cap) n (cs.set i (u, x)) ∧ w.grownBy ((w.setCell ⟨g, i * 2, none⟩ u).setCell ⟨g, i * 2 + 1, none⟩ x) (some g) ∧
    (w.setCell ⟨g, i * 2, none⟩ u).cell? ⟨g, i * 2 + 1, none⟩ = some (nthC cs i).2 ∧ (w.setCell ⟨g, i * 2, none⟩ u).frozen? ⟨g, i * 2 + 1, none⟩ = false := by
  obtain ⟨h0, g0⟩ := pr_store0 h hi u
  have hl := pr_len h
  have h1 := World.ownsRow.stored h0 (i * 2 + 1) x
  rw [pairC_set1 _ i x (by rw [List.length_set]; omega), nthC_same (by omega), List.set_set] at h1
  have hc := pr_cells h0 hi
  rw [nthC_same (by omega)] at hc
  exact ⟨h1.1, ⟨h1.2.os.trans g0.os, h1.2.tape.trans g0.tape, h1.2.output.trans g0.output, Nat.le_trans g0.size h1.2.size, fun b hb hn => (h1.2.block b (Nat.lt_of_lt_of_le hb g0.size) hn).trans (g0.block b hb hn)⟩, hc.2.1, hc.2.2.2⟩

theorem ostrs_touch {D g : Nat} {w w' : World} {v : Value} {l : List ByteArray} (h : OStrs D w v l) (hg : w.grownBy w' (some g)) (hlt : g < D) : OStrs D w' v l :=
  own_keep h (fun k hk => hg.block k (World.ownsRow.lt h k hk).2 (fun e => by
    have := (World.ownsRow.lt h k hk).1
    injection e with e
    omega))
/-- the first fields of the first n pairs are slices of strings that the call made behind D, f i being what they hold; their second fields are b i -/
structure Cols (D : Nat) (w : World) (cs : List Pr) (m n : Nat) (f : Nat → List ByteArray) (b : Nat → Value) : Prop where
  len : cs.length = m
  each : ∀ i, i < n → OStrs D w (nthC cs i).1 (f i)
  snd : ∀ i, i < n → (nthC cs i).2 = b i
theorem Cols.keep {D m n : Nat} {w w' : World} {cs : List Pr} {f : Nat → List ByteArray} {b : Nat → Value} (h : Cols D w cs m n f b) (hk : ∀ k, D ≤ k → k < w.heap.size → w'.heap[k]? = w.heap[k]?) : Cols D w' cs m n f b :=
  ⟨h.len, fun i hi => own_keep (h.each i hi) (fun k hb => hk k (World.ownsRow.lt (h.each i hi) k hb).1 (World.ownsRow.lt (h.each i hi) k hb).2), h.snd⟩
theorem Cols.below {D m n : Nat} {w w' : World} {cs : List Pr} {f : Nat → List ByteArray} {b : Nat → Value} (h : Cols D w cs m n f b) (hb : Below w.heap.size w w') : Cols D w' cs m n f b := h.keep fun k _ h2 => hb.block k h2
theorem Cols.touch {D m n g : Nat} {w w' : World} {cs : List Pr} {f : Nat → List ByteArray} {b : Nat → Value} (h : Cols D w cs m n f b) (hg : w.grownBy w' (some g)) (hlt : g < D) : Cols D w' cs m n f b :=
  h.keep fun k h1 h2 => hg.block k h2 (fun e => by injection e with e; omega)
theorem Cols.push {D m k : Nat} {w : World} {cs : List Pr} {f : Nat → List ByteArray} {b : Nat → Value} {u x : Value} (h : Cols D w cs m k f b) (hk : k < m) (hu : OStrs D w u (f k)) (hx : x = b k) : Cols D w (cs.set k (u, x)) m (k + 1) f b := by
  refine ⟨by rw [List.length_set]; exact h.len, fun i hi => ?_, fun i hi => ?_⟩
  · by_cases e : i = k
    · subst e; rw [nthC_same (by rw [h.len]; exact hk)]; exact hu
    · rw [nthC_other (by rw [h.len]; omega) e]; exact h.each i (by omega)
  · by_cases e : i = k
    · subst e; rw [nthC_same (by rw [h.len]; exact hk)]; exact hx
    · rw [nthC_other (by rw [h.len]; omega) e]; exact h.snd i (by omega)
theorem Cols.put {D m n k : Nat} {w : World} {cs : List Pr} {f f' : Nat → List ByteArray} {b : Nat → Value} {u : Value} (h : Cols D w cs m n f b) (hk : k < n) (hn : n ≤ m) (hu : OStrs D w u (f' k)) (hf : ∀ i, i < n → i ≠ k → f' i = f i) : Cols D w (cs.set k (u, (nthC cs k).2)) m n f' b := by
  refine ⟨by rw [List.length_set]; exact h.len, fun i hi => ?_, fun i hi => ?_⟩
  · by_cases e : i = k
    · subst e; rw [nthC_same (by rw [h.len]; omega)]; exact hu
    · rw [nthC_other (by rw [h.len]; omega) e, hf i hi e]; exact h.each i hi
  · by_cases e : i = k
    · subst e; rw [nthC_same (by rw [h.len]; omega)]; exact h.snd i hi
    · rw [nthC_other (by rw [h.len]; omega) e]; exact h.snd i hi
end Go.Proofs.Ytadlelcckalcoaa
