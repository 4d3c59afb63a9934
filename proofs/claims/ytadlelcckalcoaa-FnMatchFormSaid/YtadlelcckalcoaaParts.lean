/- Slices of slices of strings: of a call's own, and such as can be read. -/
import Derived.Test.YtadlelcckalcoaaJoinI
import Derived.Test.YtadlelcckalcoaaPkB
namespace Go.Proofs.Ytadlelcckalcoaa
open Go.RowKit
set_option maxRecDepth 100000

theorem infoSS : (Try.prog.info? 23).map (fun i => (i.zero, i.size, i.bytes)) = some (some (.slice none 0 0), 1, 24) := by kernel_rfl

/-- the value of row i -/
def nthV (us : List Value) (i : Nat) : Value := us.getD i (.slice none 0 0)
theorem nthV_eq {us : List Value} {i : Nat} (h : i < us.length) : nthV us i = us[i] := by simp [nthV, h]
theorem nthV_left {us : List Value} {q : Value} {i : Nat} (h : i < us.length) : nthV (us ++ [q]) i = nthV us i := by
  rw [nthV_eq (by simp; omega), nthV_eq h, List.getElem_append_left h]
theorem nthV_last {us : List Value} {q : Value} : nthV (us ++ [q]) us.length = q := by
  rw [nthV_eq (by simp)]; simp
theorem nthP_left {ps : pl.Gs} {q : List ByteArray} {i : Nat} (h : i < ps.length) : pl.nthP (ps ++ [q]) i = pl.nthP ps i := by
  rw [pl.nthP_eq (by simp; omega), pl.nthP_eq h, List.getElem_append_left h]
theorem nthP_last {ps : pl.Gs} {q : List ByteArray} : pl.nthP (ps ++ [q]) ps.length = q := by
  rw [pl.nthP_eq (by simp)]; simp

theorem own_keep {B n : Nat} {T : TypeId} {w w' : World} {v : Value} {xs : List Value} (h : w.ownsRow B T 1 v n xs) (hk : ∀ k, v.ownBlock = some k → w'.heap[k]? = w.heap[k]?) : w'.ownsRow B T 1 v n xs := by
  refine ⟨h.1, ?_⟩
  rcases h.2 with hn | ⟨g, cap, cur, rfl, hb, hgg, rest⟩
  · exact .inl hn
  · exact .inr ⟨g, cap, cur, rfl, hb, by rw [hk g rfl]; exact hgg, rest⟩
theorem own_mono {B B' n : Nat} {T : TypeId} {w : World} {v : Value} {xs : List Value} (h : w.ownsRow B T 1 v n xs) (hB : B' ≤ B) : w.ownsRow B' T 1 v n xs := by
  refine ⟨h.1, ?_⟩
  rcases h.2 with hn | ⟨g, cap, cur, rfl, hg, rest⟩
  · exact .inl hn
  · exact .inr ⟨g, cap, cur, rfl, by omega, rest⟩
theorem own_heap {B n : Nat} {T : TypeId} {w : World} {v : Value} {xs : List Value} (h : w.ownsRow B T 1 v n xs) {k : Nat} (hk : v.ownBlock = some k) : ∃ cur, w.heap[k]? = some (.cells cur T (0, 0)) := by
  rcases h.2 with ⟨rfl, _⟩ | ⟨g, cap, cur, rfl, hb, hgg, rest⟩
  · simp [Value.ownBlock] at hk
  · simp [Value.ownBlock] at hk
    subst hk
    exact ⟨cur, hgg⟩
theorem types_apart {B B' n m : Nat} {T T' : TypeId} {w : World} {v u : Value} {xs ys : List Value} (h : w.ownsRow B T 1 v n xs) (h' : w.ownsRow B' T' 1 u m ys) (hne : T ≠ T') : ∀ k, v.ownBlock = some k → u.ownBlock ≠ some k := by
  intro k h1 h2
  obtain ⟨c1, e1⟩ := own_heap h h1
  obtain ⟨c2, e2⟩ := own_heap h' h2
  rw [e1] at e2
  simp only [Option.some.injEq, Obj.cells.injEq] at e2
  exact hne e2.2.1

/-- the rows that stand in a slice, each of the call's own, no two in one block -/
structure Inn (B : Nat) (w : World) (us : List Value) (ps : pl.Gs) : Prop where
  len : us.length = ps.length
  each : ∀ i, i < ps.length → OStrs B w (nthV us i) (pl.nthP ps i)
  apart : ∀ i j, i < j → j < us.length → ∀ k, (nthV us i).ownBlock = some k → (nthV us j).ownBlock ≠ some k
theorem Inn.nil (B : Nat) (w : World) : Inn B w [] [] := ⟨rfl, fun i h => by simp at h, fun i j _ h => by simp at h⟩
theorem Inn.lt {B : Nat} {w : World} {us : List Value} {ps : pl.Gs} (h : Inn B w us ps) : ∀ i k, i < us.length → (nthV us i).ownBlock = some k → B ≤ k ∧ k < w.heap.size :=
  fun i k hi hk => World.ownsRow.lt (h.each i (by rw [← h.len]; exact hi)) k hk
theorem Inn.keep {B : Nat} {w w' : World} {us : List Value} {ps : pl.Gs} (h : Inn B w us ps) (hk : ∀ i k, i < us.length → (nthV us i).ownBlock = some k → w'.heap[k]? = w.heap[k]?) : Inn B w' us ps :=
  ⟨h.len, fun i hi => own_keep (h.each i hi) (fun k hk2 => hk i k (by rw [h.len]; exact hi) hk2), h.apart⟩
theorem Inn.below {B C : Nat} {w w' : World} {us : List Value} {ps : pl.Gs} (h : Inn B w us ps) (hC : w.heap.size ≤ C) (hb : Below C w w') : Inn B w' us ps :=
  h.keep fun i k hi hk => hb.block k (by have := (h.lt i k hi hk).2; omega)
theorem Inn.mono {B B' : Nat} {w : World} {us : List Value} {ps : pl.Gs} (h : Inn B w us ps) (hB : B' ≤ B) : Inn B' w us ps :=
  ⟨h.len, fun i hi => (h.each i hi).mono hB, h.apart⟩
theorem Inn.push {B : Nat} {w : World} {us : List Value} {ps : pl.Gs} {q : Value} {cur : List ByteArray} (h : Inn B w us ps) (hq : OStrs B w q cur) (hap : ∀ i k, i < us.length → (nthV us i).ownBlock = some k → q.ownBlock ≠ some k) : Inn B w (us ++ [q]) (ps ++ [cur]) := by
  refine ⟨by simp [h.len], fun i hi => ?_, fun i j hij hj => ?_⟩
  · by_cases e : i < ps.length
    · rw [nthV_left (by rw [h.len]; exact e), nthP_left e]; exact h.each i e
    · have e2 : i = ps.length := by simp at hi; omega
      subst e2
      rw [nthP_last, ← h.len, nthV_last]; exact hq
  · by_cases e : j < us.length
    · rw [nthV_left e, nthV_left (by omega)]; exact h.apart i j hij e
    · have e2 : j = us.length := by simp at hj; omega
      subst e2
      rw [nthV_last, nthV_left hij]; exact fun k hk => hap i k hij hk
/-- rows stay while the slice that holds them grows -/
theorem Inn.outer {B B' n : Nat} {w w' : World} {us xs : List Value} {ps : pl.Gs} {v : Value} (h : Inn B w us ps) (ho : w.ownsRow B' 23 1 v n xs) (hg : w.grownBy w' v.ownBlock) : Inn B w' us ps :=
  h.keep fun i k hi hk => hg.block k (h.lt i k hi hk).2 (fun e => types_apart ho (h.each i (by rw [← h.len]; exact hi)) (by decide) k e.symm hk)
/-- rows stay while one that was begun later grows -/
theorem Inn.later {B C : Nat} {w w' : World} {us : List Value} {ps : pl.Gs} {q : Value} {cur : List ByteArray} (h : Inn B w us ps) (hC : ∀ i k, i < us.length → (nthV us i).ownBlock = some k → k < C) (hq : OStrs C w q cur) (hg : w.grownBy w' q.ownBlock) : Inn B w' us ps :=
  h.keep fun i k hi hk => hg.block k (h.lt i k hi hk).2 (fun e => by
    have h1 := hC i k hi hk
    have h2 := (World.ownsRow.lt hq k e.symm).1
    omega)

/-- v is a slice of slices of strings of the call's own, made in blocks from B on, and holds ps -/
def OPs (B : Nat) (w : World) (v : Value) (us : List Value) (ps : pl.Gs) : Prop := w.ownsRow B 23 1 v us.length us ∧ Inn B w us ps
theorem OPs.nil (B : Nat) (w : World) : OPs B w (.slice none 0 0) [] [] := ⟨World.ownsRow_nil _ _ _ _, Inn.nil B w⟩
theorem OPs.below {B C : Nat} {w w' : World} {v : Value} {us : List Value} {ps : pl.Gs} (h : OPs B w v us ps) (hC : w.heap.size ≤ C) (hb : Below C w w') : OPs B w' v us ps :=
  ⟨own_keep h.1 (fun k hk => hb.block k (by have := (World.ownsRow.lt h.1 k hk).2; omega)), h.2.below hC hb⟩
theorem OPs.mono {B B' : Nat} {w : World} {v : Value} {us : List Value} {ps : pl.Gs} (h : OPs B w v us ps) (hB : B' ≤ B) : OPs B' w v us ps :=
  ⟨own_mono h.1 hB, h.2.mono hB⟩

/-- v is a slice of slices of strings that reads as ps -/
def RPs (w : World) (v : Value) (ps : pl.Gs) : Prop :=
  (ps = [] ∧ ∃ a cap, v = .slice a 0 cap) ∨ (0 < ps.length ∧ ∃ b off cap, v = .slice (some ⟨b, off, none⟩) ps.length cap ∧ b < w.heap.size ∧ ∀ i, i < ps.length → ∃ u, w.cell? ⟨b, off + i, none⟩ = some u ∧ LStrs w u (pl.nthP ps i))
theorem RPs.slice {w : World} {v : Value} {ps : pl.Gs} (h : RPs w v ps) : ∃ a cap, v = .slice a ps.length cap := by
  rcases h with ⟨hl, a, cap, hv⟩ | ⟨_, b, off, cap, hv, _⟩
  · exact ⟨a, cap, by rw [hv, hl]; rfl⟩
  · exact ⟨_, cap, hv⟩
theorem RPs.below {C : Nat} {w w' : World} {v : Value} {ps : pl.Gs} (h : RPs w v ps) (hC : w.heap.size ≤ C) (hb : Below C w w') : RPs w' v ps := by
  rcases h with h | ⟨hp, b, off, cap, hv, hlt, hc⟩
  · exact .inl h
  · refine .inr ⟨hp, b, off, cap, hv, Nat.lt_of_lt_of_le hlt hb.size, fun i hi => ?_⟩
    obtain ⟨u, h1, h2⟩ := hc i hi
    exact ⟨u, by rw [hb.cell (by show b < C; omega)]; exact h1, h2.below hC hb⟩
theorem RPs.at {w wr : World} {a : Option Addr} {n cap k : Nat} {ps : pl.Gs} (h : RPs w (.slice a n cap) ps) (hn : n = ps.length) (hb : Below w.heap.size w wr) (hk : k < n) :
    ∃ b o u, a = some ⟨b, o, none⟩ ∧ b < w.heap.size ∧ wr.cell? ⟨b, o + k, none⟩ = some u ∧ LStrs wr u (pl.nthP ps k) := by
  rcases h with ⟨hz, _⟩ | ⟨hp, b, off, c, hv, hlt, hc⟩
  · rw [hz] at hn; simp at hn; omega
  · simp only [Value.slice.injEq] at hv
    obtain ⟨rfl, _, _⟩ := hv
    obtain ⟨u, h1, h2⟩ := hc k (by omega)
    exact ⟨b, off, u, rfl, hlt, by rw [hb.cell (p := ⟨b, off + k, none⟩) hlt]; exact h1, h2.below (Nat.le_refl _) hb⟩
theorem OPs.reads {B : Nat} {w : World} {v : Value} {us : List Value} {ps : pl.Gs} (h : OPs B w v us ps) : RPs w v ps := by
  obtain ⟨ho, hi⟩ := h
  have hw := ho
  rcases ho.2 with ⟨hv, hn⟩ | ⟨g, cap, cur, hv, hB, hg, hle, hm, hs, htake⟩
  · exact .inl ⟨List.length_eq_zero_iff.1 (by rw [← hi.len]; exact hn), none, 0, hv⟩
  · by_cases h0 : ps.length = 0
    · exact .inl ⟨List.length_eq_zero_iff.1 h0, _, cap, by rw [hv, hi.len, h0]⟩
    · refine .inr ⟨by omega, g, 0, cap, by rw [hv, hi.len], (Array.getElem?_eq_some_iff.1 hg).1, fun i hlt => ?_⟩
      subst hv
      have hiu : i < us.length := by rw [hi.len]; exact hlt
      refine ⟨nthV us i, ?_, (hi.each i hlt).lreads⟩
      rw [Nat.zero_add, World.ownsRow.cellAt hw i (by omega), nthV_eq hiu, List.getElem?_eq_getElem hiu]

/-- a world in which the rows us were written, and nothing else that was there -/
structure Wrote (us : List Value) (w w' : World) : Prop where
  os : w'.os = w.os
  tape : w'.tape = w.tape
  output : w'.output = w.output
  size : w.heap.size ≤ w'.heap.size
  block : ∀ b, b < w.heap.size → (∀ i, i < us.length → (nthV us i).ownBlock ≠ some b) → w'.heap[b]? = w.heap[b]?
theorem Wrote.refl (us : List Value) (w : World) : Wrote us w w := ⟨rfl, rfl, rfl, Nat.le_refl _, fun _ _ _ => rfl⟩
theorem Wrote.grown {us : List Value} {w w' w'' : World} (h : Wrote us w w') {i : Nat} (hi : i < us.length) (hg : w'.grownBy w'' (nthV us i).ownBlock) : Wrote us w w'' :=
  ⟨hg.os.trans h.os, hg.tape.trans h.tape, hg.output.trans h.output, Nat.le_trans h.size hg.size, fun b hb hn => (hg.block b (Nat.lt_of_lt_of_le hb h.size) (fun e => hn i hi e.symm)).trans (h.block b hb hn)⟩
theorem Wrote.belowOf {B : Nat} {us : List Value} {ps : pl.Gs} {w w' : World} (h : Wrote us w w') (hi : Inn B w us ps) (hB : B ≤ w.heap.size) : Below B w w' :=
  ⟨h.os, h.tape, h.output, h.size, fun b hb => h.block b (by omega) (fun i hlt e => by have := (hi.lt i b hlt e).1; omega)⟩
/-- what was made before the rows, or behind them, stays while they are written -/
theorem OStrs.wrote {B D : Nat} {us : List Value} {ps : pl.Gs} {w w' : World} {v : Value} {l : List ByteArray} (h : OStrs D w v l) (hw : Wrote us w w') (hi : Inn B w us ps) (hd : (∀ k, v.ownBlock = some k → k < B) ∨ (∀ i k, i < us.length → (nthV us i).ownBlock = some k → k < D)) : OStrs D w' v l :=
  own_keep h (fun k hk => hw.block k (World.ownsRow.lt h k hk).2 (fun i hlt e => by
    rcases hd with hd | hd
    · have := hd k hk; have := (hi.lt i k hlt e).1; omega
    · have := hd i k hlt e; have := (World.ownsRow.lt h k hk).1; omega))
theorem Inn.wrote {B D : Nat} {us us2 : List Value} {ps ps2 : pl.Gs} {w w' : World} (h : Inn D w us2 ps2) (hw : Wrote us w w') (hi : Inn B w us ps) (hd : (∀ i k, i < us2.length → (nthV us2 i).ownBlock = some k → k < B) ∨ (∀ i k, i < us.length → (nthV us i).ownBlock = some k → k < D)) : Inn D w' us2 ps2 :=
  h.keep (fun j k hj hk => hw.block k (h.lt j k hj hk).2 (fun i hlt e => by
    rcases hd with hd | hd
    · have := hd j k hj hk; have := (hi.lt i k hlt e).1; omega
    · have := hd i k hlt e; have := (h.lt j k hj hk).1; omega))
theorem OPs.wrote {B D : Nat} {us us2 : List Value} {ps ps2 : pl.Gs} {w w' : World} {v : Value} (h : OPs D w v us2 ps2) (hw : Wrote us w w') (hi : Inn B w us ps) (hd : (∀ i k, i < us2.length → (nthV us2 i).ownBlock = some k → k < B) ∨ (∀ i k, i < us.length → (nthV us i).ownBlock = some k → k < D)) : OPs D w' v us2 ps2 :=
  ⟨own_keep h.1 (fun k hk => hw.block k (World.ownsRow.lt h.1 k hk).2 (fun i hlt e => types_apart h.1 (hi.each i (by rw [← hi.len]; exact hlt)) (by decide) k hk e)), h.2.wrote hw hi hd⟩
/-- rows stay while a slice of strings is written that was made before all of them, or behind them -/
theorem OPs.grown {B D n : Nat} {us : List Value} {ps : pl.Gs} {w w' : World} {v u : Value} {xs : List Value} (h : OPs D w v us ps) (hu : w.ownsRow B 9 1 u n xs) (hg : w.grownBy w' u.ownBlock) (hd : (∀ k, u.ownBlock = some k → k < D) ∨ (∀ i k, i < us.length → (nthV us i).ownBlock = some k → k < B)) : OPs D w' v us ps :=
  ⟨own_keep h.1 (fun k hk => hg.block k (World.ownsRow.lt h.1 k hk).2 (fun e => types_apart h.1 hu (by decide) k hk e.symm)),
    h.2.keep (fun i k hi hk => hg.block k (h.2.lt i k hi hk).2 (fun e => by
      rcases hd with hd | hd
      · have := hd k e.symm; have := (h.2.lt i k hi hk).1; omega
      · have := hd i k hi hk; have := (World.ownsRow.lt hu k e.symm).1; omega))⟩

/-- paragraphs that are small enough to be counted -/
structure Small (ps : pl.Gs) : Prop where
  len : ps.length ≤ 1048576
  rows : ∀ k, k < ps.length → (pl.nthP ps k).length ≤ 1048576
  size : ∀ k, k < ps.length → ∀ i, i < (pl.nthP ps k).length → (nth (pl.nthP ps k) i).size ≤ 1048576
/-- a slice of slices of strings of the call's own, whatever its rows are -/
def HPs (B : Nat) (w : World) (v : Value) (ps : pl.Gs) : Prop := ∃ us, OPs B w v us ps
theorem HPs.reads {B : Nat} {w : World} {v : Value} {ps : pl.Gs} (h : HPs B w v ps) : RPs w v ps := by
  obtain ⟨us, h⟩ := h; exact h.reads
theorem HPs.below {B C : Nat} {w w' : World} {v : Value} {ps : pl.Gs} (h : HPs B w v ps) (hC : w.heap.size ≤ C) (hb : Below C w w') : HPs B w' v ps := by
  obtain ⟨us, h⟩ := h; exact ⟨us, h.below hC hb⟩
theorem HPs.nil (B : Nat) (w : World) : HPs B w (.slice none 0 0) [] := ⟨[], OPs.nil B w⟩
theorem OStrs.catP {B : Nat} {w' : World} {v' : Value} {l l2 : List ByteArray} (h : w'.ownsRow B 9 1 v' (l.length + l2.length) (l.map Value.string ++ l2.map Value.string)) : OStrs B w' v' (l ++ l2) := by
  unfold OStrs
  simpa using h
/-- one more row is pushed -/
theorem OPs.pushed {B C : Nat} {w w' : World} {o : Obj} {v v' : Value} {us : List Value} {ps : pl.Gs} {q : Value} {cur : List ByteArray} (h : OPs B w v us ps) (hq : OStrs C w q cur) (hB : B ≤ C) (hC : ∀ i k, i < us.length → (nthV us i).ownBlock = some k → k < C)
    (ho : w'.ownsRow B 23 1 v' (us.length + 1) (us ++ [q])) (hg : (w.alloc o).grownBy w' v.ownBlock) : OPs B w' v' (us ++ [q]) (ps ++ [cur]) := by
  have ho0 : (w.alloc o).ownsRow B 23 1 v us.length us := World.ownsRow.alloc h.1 o
  have hi0 : Inn B (w.alloc o) us ps := h.2.below (Nat.le_refl _) ((Below.refl _ _).alloc (Nat.le_refl _) _)
  have hi1 := hi0.outer ho0 hg
  have hq0 : OStrs C (w.alloc o) q cur := hq.alloc o
  have hq1 : OStrs C w' q cur := own_keep hq0 (fun k hk => hg.block k (World.ownsRow.lt hq0 k hk).2 (fun e => types_apart ho0 hq0 (by decide) k e.symm hk))
  refine ⟨by simpa using ho, hi1.push (hq1.mono hB) (fun i k hi2 hk e => ?_)⟩
  have h1 := hC i k hi2 hk
  have h2 := (World.ownsRow.lt hq1 k e).1
  omega
theorem OPs.lt {B : Nat} {w : World} {v : Value} {us : List Value} {ps : pl.Gs} (h : OPs B w v us ps) : ∀ i k, i < us.length → (nthV us i).ownBlock = some k → k < w.heap.size := fun i k hi hk => (h.2.lt i k hi hk).2
end Go.Proofs.Ytadlelcckalcoaa
