/- Slices of changes: such as can be read, such as a call may write. -/
import Derived.Test.YtckfpneooknifaaPlainCo
import Derived.Test.YtckfpneooknifaaPairs
import Derived.Test.YtckfpneooknifaaSpan
namespace Go.Proofs.Ytckfpneooknifaa
open Go.RowKit
set_option maxRecDepth 100000
set_option linter.unusedVariables false

theorem infoCh : (Try.prog.info? 79).map (fun i => (i.zero, i.size, i.bytes)) = some (some (.agg #[.int .i64 0, .string ByteArray.empty]), 2, 24) := by kernel_rfl
namespace pl
def nthH (cs : List Ch) (i : Nat) : Ch := cs.getD i (0, ⟨#[]⟩)
theorem nthH_eq {cs : List Ch} {i : Nat} (h : i < cs.length) : nthH cs i = cs[i] := by simp [nthH, h]
theorem nthH_ext {a b : List Ch} (hl : a.length = b.length) (h : ∀ i, i < a.length → nthH a i = nthH b i) : a = b := by
  apply List.ext_getElem hl
  intro i h1 h2
  rw [← nthH_eq h1, ← nthH_eq h2]
  exact h i h1
theorem nthH_same {cs : List Ch} {i : Nat} {q : Ch} (h : i < cs.length) : nthH (cs.set i q) i = q := by
  rw [nthH_eq (by simpa using h)]; simp
theorem nthH_other {cs : List Ch} {i j : Nat} {q : Ch} (hj : j < cs.length) (h : j ≠ i) : nthH (cs.set i q) j = nthH cs j := by
  rw [nthH_eq (by simpa using hj), nthH_eq hj, List.getElem_set_ne (fun e => h e.symm)]
theorem drop_nthH {cs : List Ch} {i : Nat} (h : i < cs.length) : cs.drop i = nthH cs i :: cs.drop (i + 1) := by
  rw [nthH_eq h]; exact List.drop_eq_getElem_cons h
end pl
theorem cell_pair_new (w : World) (x y : Value) (t : TypeId) : ∀ j u, [x, y][j]? = some u → (w.alloc (.cells #[x, y] t)).cell? ((⟨w.heap.size, 0, none⟩ : Addr).add j) = some u := by
  intro j u hu
  match j, hu with
  | 0, hu => simp at hu; subst hu; simp [Addr.add]
  | 1, hu => simp at hu; subst hu; simp [Addr.add]
  | j + 2, hu => simp at hu
/-- v reads as these changes -/
def RCh (w : World) (v : Value) (cs : List pl.Ch) : Prop :=
  (cs = [] ∧ ∃ a cap, v = .slice a 0 cap) ∨ (0 < cs.length ∧ ∃ b o cap, v = .slice (some ⟨b, o, none⟩) cs.length cap ∧ b < w.heap.size ∧ ∀ i, i < cs.length → w.cell? ⟨b, o + i * 2, none⟩ = some (.int .i64 (pl.nthH cs i).1) ∧ w.cell? ⟨b, o + i * 2 + 1, none⟩ = some (.string (pl.nthH cs i).2))
theorem RCh.below {C : Nat} {w w' : World} {v : Value} {cs : List pl.Ch} (h : RCh w v cs) (hC : w.heap.size ≤ C) (hb : Below C w w') : RCh w' v cs := by
  rcases h with h | ⟨h0, b, o, cap, hv, hlt, hc⟩
  · exact .inl h
  · exact .inr ⟨h0, b, o, cap, hv, Nat.lt_of_lt_of_le hlt hb.size, fun i hi => ⟨(hb.cell (p := ⟨b, o + i * 2, none⟩) (by show b < C; omega)).trans (hc i hi).1, (hb.cell (p := ⟨b, o + i * 2 + 1, none⟩) (by show b < C; omega)).trans (hc i hi).2⟩⟩
theorem RCh.slice {w : World} {v : Value} {cs : List pl.Ch} (h : RCh w v cs) : ∃ a cap, v = .slice a cs.length cap := by
  rcases h with ⟨hl, a, cap, hv⟩ | ⟨_, b, o, cap, hv, _⟩
  · exact ⟨a, cap, by rw [hv, hl]; rfl⟩
  · exact ⟨_, _, hv⟩
theorem RCh.at {w w' : World} {a : Option Addr} {n cap : Nat} {cs : List pl.Ch} (h : RCh w (.slice a n cap) cs) (hn : n = cs.length) (hb : Below w.heap.size w w') {i : Nat} (hi : i < n) :
    ∃ b o, a = some ⟨b, o, none⟩ ∧ b < w.heap.size ∧ w'.cell? ⟨b, o + i * 2, none⟩ = some (.int .i64 (pl.nthH cs i).1) ∧ w'.cell? ⟨b, o + i * 2 + 1, none⟩ = some (.string (pl.nthH cs i).2) := by
  rcases h with ⟨hl, _⟩ | ⟨h0, b, o, c, hv, hlt, hc⟩
  · rw [hl] at hn; simp at hn; omega
  · injection hv with h1 h2 h3
    obtain ⟨c1, c2⟩ := hc i (by omega)
    exact ⟨b, o, h1, hlt, (hb.cell (p := ⟨b, o + i * 2, none⟩) hlt).trans c1, (hb.cell (p := ⟨b, o + i * 2 + 1, none⟩) hlt).trans c2⟩
/-- changes that were made, in blocks from D up to E, and may be written -/
def WCh (D E : Nat) (w : World) (v : Value) (cs : List pl.Ch) : Prop :=
  D ≤ E ∧ E ≤ w.heap.size ∧ ((cs = [] ∧ ∃ a cap, v = .slice a 0 cap) ∨ (0 < cs.length ∧ ∃ b o cap, v = .slice (some ⟨b, o, none⟩) cs.length cap ∧ D ≤ b ∧ b < E ∧ ∀ i, i < cs.length → w.cell? ⟨b, o + i * 2, none⟩ = some (.int .i64 (pl.nthH cs i).1) ∧ w.cell? ⟨b, o + i * 2 + 1, none⟩ = some (.string (pl.nthH cs i).2) ∧ w.frozen? ⟨b, o + i * 2, none⟩ = false ∧ w.frozen? ⟨b, o + i * 2 + 1, none⟩ = false))
theorem WCh.reads {D E : Nat} {w : World} {v : Value} {cs : List pl.Ch} (h : WCh D E w v cs) : RCh w v cs := by
  obtain ⟨_, hE, h | ⟨h0, b, o, cap, hv, _, hb, hc⟩⟩ := h
  · exact .inl h
  · exact .inr ⟨h0, b, o, cap, hv, by omega, fun i hi => ⟨(hc i hi).1, (hc i hi).2.1⟩⟩
theorem frozen_block {w w' : World} {b o : Nat} (h : w'.heap[b]? = w.heap[b]?) : w'.frozen? ⟨b, o, none⟩ = w.frozen? ⟨b, o, none⟩ := by
  unfold World.frozen?; simp only [h]
theorem WCh.touch {D E D' E' : Nat} {w w' : World} {v : Value} {cs : List pl.Ch} (h : WCh D E w v cs) (ht : Touch D' E' w w') (hd : E ≤ D' ∨ E' ≤ D) : WCh D E w' v cs := by
  obtain ⟨hD, hE, h⟩ := h
  refine ⟨hD, Nat.le_trans hE ht.size, ?_⟩
  rcases h with h | ⟨h0, b, o, cap, hv, hb0, hb, hc⟩
  · exact .inl h
  · have hbk : w'.heap[b]? = w.heap[b]? := ht.block b (by omega) (by omega)
    refine .inr ⟨h0, b, o, cap, hv, hb0, hb, fun i hi => ?_⟩
    obtain ⟨c1, c2, f1, f2⟩ := hc i hi
    exact ⟨(World.cell?_of_block hbk).trans c1, (World.cell?_of_block hbk).trans c2, (frozen_block hbk).trans f1, (frozen_block hbk).trans f2⟩
theorem WCh.below {D E : Nat} {w w' : World} {v : Value} {cs : List pl.Ch} (h : WCh D E w v cs) (hb : Below w.heap.size w w') : WCh D E w' v cs := h.touch (touch_below hb E) (.inl (Nat.le_refl _))
/-- what was appended, or made and filled -/
def chV (cs : List pl.Ch) : List Pr := cs.map fun c => (.int .i64 c.1, .string c.2)
theorem chV_len (cs : List pl.Ch) : (chV cs).length = cs.length := by simp [chV]
theorem chV_nth {cs : List pl.Ch} {i : Nat} (h : i < cs.length) : nthC (chV cs) i = (.int .i64 (pl.nthH cs i).1, .string (pl.nthH cs i).2) := by
  rw [nthC_eq (by rw [chV_len]; exact h), pl.nthH_eq h]
  simp [chV]
theorem pairC_app (a b : List Pr) : pairC (a ++ b) = pairC a ++ pairC b := by
  induction a with
  | nil => rfl
  | cons p a ih => simp [pairC, ih]
/-- v owns these changes -/
def OCh (B : Nat) (w : World) (v : Value) (cs : List pl.Ch) : Prop := OPr 79 B w v cs.length (chV cs)
theorem OCh.nil (B : Nat) (w : World) : OCh B w (.slice none 0 0) [] := World.ownsRow_nil _ _ _ _
theorem OCh.below {B : Nat} {w w' : World} {v : Value} {cs : List pl.Ch} (h : OCh B w v cs) (hb : Below w.heap.size w w') : OCh B w' v cs := pr_below h hb
theorem OCh.mono {B B' : Nat} {w : World} {v : Value} {cs : List pl.Ch} (h : OCh B w v cs) (hB : B' ≤ B) : OCh B' w v cs := by
  refine ⟨h.1, ?_⟩
  rcases h.2 with hn | ⟨g, cap, cur, rfl, hg, rest⟩
  · exact .inl hn
  · exact .inr ⟨g, cap, cur, rfl, by omega, rest⟩
theorem OCh.push {B : Nat} {w : World} {v : Value} {cs : List pl.Ch} {k : Int} {l : ByteArray} (h : w.ownsRow B 79 2 v (cs.length + 1) (pairC (chV cs) ++ [.int .i64 k, .string l])) : OCh B w v (cs ++ [(k, l)]) := by
  unfold OCh OPr
  rw [List.length_append, List.length_singleton]
  have : chV (cs ++ [(k, l)]) = chV cs ++ [(.int .i64 k, .string l)] := by simp [chV]
  rw [this, pairC_app]
  exact h
theorem OCh.w {B : Nat} {w : World} {v : Value} {cs : List pl.Ch} (h : OCh B w v cs) (hB : B ≤ w.heap.size) : WCh B w.heap.size w v cs := by
  refine ⟨hB, Nat.le_refl _, ?_⟩
  have hw := h
  rcases h.2 with ⟨hv, hn⟩ | ⟨g, cap, cur, hv, hBg, hg, hle, hm, hs, htake⟩
  · exact .inl ⟨List.length_eq_zero_iff.1 hn, none, 0, hv⟩
  · rcases Nat.eq_zero_or_pos cs.length with h0 | h0
    · exact .inl ⟨List.length_eq_zero_iff.1 h0, _, cap, by rw [hv, h0]⟩
    · refine .inr ⟨h0, g, 0, cap, hv, hBg, (Array.getElem?_eq_some_iff.1 hg).1, fun i hi => ?_⟩
      unfold OCh at hw
      rw [hv] at hw
      obtain ⟨h1, h2, h3, h4⟩ := pr_cells hw hi
      rw [chV_nth hi] at h1 h2
      rw [Nat.zero_add]
      exact ⟨h1, h2, h3, h4⟩
theorem OCh.reads {B : Nat} {w : World} {v : Value} {cs : List pl.Ch} (h : OCh B w v cs) : RCh w v cs := by
  have hw := h
  rcases h.2 with ⟨hv, hn⟩ | ⟨g, cap, cur, hv, hBg, hg, hle, hm, hs, htake⟩
  · exact .inl ⟨List.length_eq_zero_iff.1 hn, none, 0, hv⟩
  · rcases Nat.eq_zero_or_pos cs.length with h0 | h0
    · exact .inl ⟨List.length_eq_zero_iff.1 h0, _, cap, by rw [hv, h0]⟩
    · refine .inr ⟨h0, g, 0, cap, hv, (Array.getElem?_eq_some_iff.1 hg).1, fun i hi => ?_⟩
      unfold OCh at hw
      rw [hv] at hw
      obtain ⟨h1, h2, _, _⟩ := pr_cells hw hi
      rw [chV_nth hi] at h1 h2
      rw [Nat.zero_add]
      exact ⟨h1, h2⟩
/-- the first k of the rows are these changes -/
def FirstC (cs : List pl.Ch) (rs : List Pr) (k : Nat) : Prop := ∀ i, i < k → nthC rs i = (.int .i64 (pl.nthH cs i).1, .string (pl.nthH cs i).2)
theorem FirstC.push {cs : List pl.Ch} {rs : List Pr} {k : Nat} {x : Int} {y : ByteArray} (h : FirstC cs rs k) (hk : k < rs.length) (hx : (pl.nthH cs k).1 = x) (hy : (pl.nthH cs k).2 = y) : FirstC cs (rs.set k (.int .i64 x, .string y)) (k + 1) := by
  intro i hi
  by_cases e : i = k
  · subst e; rw [nthC_same hk, hx, hy]
  · rw [nthC_other (by omega) e]; exact h i (by omega)
theorem made_changes {B n : Nat} {w : World} {v : Value} {rs : List Pr} {cs : List pl.Ch} (h : OPr 79 B w v n rs) (hn : n = cs.length) (hf : FirstC cs rs n) : OCh B w v cs := by
  have e : rs = chV cs := by
    have hl := pr_len h
    apply List.ext_getElem (by rw [hl, hn, chV_len])
    intro i h1 h2
    have hi : i < cs.length := by omega
    rw [← nthC_eq h1, ← nthC_eq h2, chV_nth hi]
    exact hf i (by omega)
  unfold OCh
  rw [← e, ← hn]; exact h
end Go.Proofs.Ytckfpneooknifaa
