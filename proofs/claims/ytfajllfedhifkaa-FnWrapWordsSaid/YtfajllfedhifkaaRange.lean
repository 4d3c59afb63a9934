/- The statement that ranges over all ways: what a body owes. -/
import Derived.Test.YtfajllfedhifkaaIter
namespace Go.Proofs.Ytfajllfedhifkaa
open Go.RowKit
set_option maxRecDepth 100000

/-- all blocks that lay there lie there still, but for the two that the loop itself keeps -/
structure Apart (D : Nat) (W W' : World) : Prop where
  os : W'.os = W.os
  tape : W'.tape = W.tape
  output : W'.output = W.output
  size : W.heap.size ≤ W'.heap.size
  block : ∀ k, k < W.heap.size → k ≠ D → k ≠ D + 1 → W'.heap[k]? = W.heap[k]?
theorem Apart.refl (D : Nat) (W : World) : Apart D W W := ⟨rfl, rfl, rfl, Nat.le_refl _, fun _ _ _ _ => rfl⟩
theorem Apart.of_below {D : Nat} {W W' : World} (h : Below W.heap.size W W') : Apart D W W' := ⟨h.os, h.tape, h.output, h.size, fun k hk _ _ => h.block k hk⟩
theorem Apart.putObj {D : Nat} (W : World) {l : Nat} (o : Obj) (hl : l = D ∨ l = D + 1) : Apart D W (W.putObj l o) := by
  refine ⟨rfl, rfl, rfl, ?_, fun k _ h1 h2 => World.putObj_heap_other (by omega)⟩
  simp [World.putObj]
theorem Apart.cell {D : Nat} {W W' : World} (h : Apart D W W') {p : Addr} {v : Value} (hp : W.cell? p = some v) (h1 : p.block ≠ D) (h2 : p.block ≠ D + 1) : W'.cell? p = some v :=
  (World.cell?_of_block (h.block _ (World.block_lt_of_cell? _ _ hp) h1 h2)).trans hp
theorem Apart.below {D B : Nat} {w0 W W' : World} (h : Apart D W W') (hB : Below B w0 W) (hD : B ≤ D) (hs : w0.heap.size = B) : Below B w0 W' :=
  ⟨h.os.trans hB.os, h.tape.trans hB.tape, h.output.trans hB.output, Nat.le_trans hB.size h.size, fun k hk => (h.block k (by have := hB.size; omega) (by omega) (by omega)).trans (hB.block k hk)⟩
theorem Apart.rstrs {D : Nat} {W W' : World} (h : Apart D W W') {v : Value} {l : List ByteArray} (hr : RStrs W v l) (hb : ∀ b o n c, v = .slice (some ⟨b, o, none⟩) n c → b < D) : RStrs W' v l := by
  rcases hr with hr | ⟨hp, b, off, cap, hv, hlt, hc⟩
  · exact .inl hr
  · have hbD := hb _ _ _ _ hv
    exact .inr ⟨hp, b, off, cap, hv, Nat.lt_of_lt_of_le hlt h.size, fun i hi => h.cell (hc i hi) (by show b ≠ D; omega) (by show b ≠ D + 1; omega)⟩
theorem Apart.orows {D B : Nat} {W W' : World} (h : Apart D W W') {v : Value} {rs : List Tr} (hr : ORows B W v rs) (hB : D + 2 ≤ B) : ORows B W' v rs := by
  refine ⟨hr.1, ?_⟩
  rcases hr.2 with hn | ⟨g, cap, cur, hv, hBg, hg, rest⟩
  · exact .inl hn
  · refine .inr ⟨g, cap, cur, hv, hBg, ?_, rest⟩
    rw [h.block g (Array.getElem?_eq_some_iff.1 hg).1 (by omega) (by omega)]
    exact hg

set_option maxHeartbeats 1000000 in
theorem range_ways {n : Nat} {g : Operand} {ps : Array Tmp} {assign body : Code} {Q : Exit → Act → World → Prop} {a : Act} {w : World} (A1 : Value → Act) (hn : 3 ≤ n) (D : Nat) (hD : w.heap.size = D)
    (bl bw N : Nat) (a0 : Option Addr) (cap0 : Nat) (l : List ByteArray) (wd : Int) (HN : Hid (N = l.length)) (hl9 : N ≤ 9) (h12 : ∀ x ∈ l, x.size ≤ 12)
    (hg : a.eval g = .func (.func 80) #[] #[.pointer (some ⟨bl, 0, none⟩), .pointer (some ⟨bw, 0, none⟩)]) (hps : ps.size = 1)
    (I : Nat → World → Prop)
    (hIs : ∀ m W W', I m W → Apart D W W' → I m W')
    (hIc : ∀ m W, I m W → W.cell? ⟨bl, 0, none⟩ = some (.slice a0 N cap0) ∧ W.cell? ⟨bw, 0, none⟩ = some (.int .i64 wd) ∧ RStrs W (.slice a0 N cap0) l)
    (hIn : ∀ m W, I m W → m < 2 ^ (l.length - 1) → pl.fitG wd (pl.wayB m l l.length) = false → I (m + 1) W)
    (h0 : I 0 w)
    (hassign : ∀ x W (K : Act → World → Prop), K (A1 x) W → assign.wpIn (Fence.wide.inRound (D + 1)) (n - 1 - 1) Try.prog (Exit.then K (fun _ _ _ => False)) { tmps := (ps.zip #[x]).foldl (fun t (p, v) => t.setIfInBounds p v) a.tmps, defers := [] } W)
    (hbody : ∀ m x W, I m W → D + 2 ≤ W.heap.size → m < 2 ^ (l.length - 1) → pl.fitG wd (pl.wayB m l l.length) = true → ORows (D + 2) W x (rowsG 0 (pl.wayB m l l.length)) →
      body.wpIn (Fence.wide.inRound (D + 1)) (n - 1 - 1) Try.prog (fun e _ W3 => e = .normal ∧ I (m + 1) W3 ∧ W3.heap[D]? = W.heap[D]? ∧ W3.heap[D + 1]? = W.heap[D + 1]?) (A1 x) W)
    (hQ : ∀ W, I (2 ^ (l.length - 1)) W → W.heap[D]? = some (.deferred (some [])) → Q .normal { a with defers := [{ target := .collected D, args := #[] }] ++ a.defers } W) :
    (Code.rangeFunc g ps assign body).wpIn Fence.wide n Try.prog Q a w := by
  subst hD
  refine wpIn_rangeFunc ?_
  intro fn hfn
  obtain ⟨rec, hrec⟩ : ∃ rec : LoopState → Option Code → Loop, rec = fun st pe => { state := st, pending := pe, fn, tmps := a.tmps, params := ps, assign, body, defers := w.heap.size } := ⟨_, rfl⟩
  obtain ⟨W1, hW1⟩ : ∃ W1, (w.alloc (.deferred (some []))).alloc (.loop (rec .ready none)) = W1 := ⟨_, rfl⟩
  have hL1 : W1.heap[w.heap.size + 1]? = some (.loop (rec .ready none)) := by
    rw [← hW1]; have := World.alloc_heap_new (w.alloc (.deferred (some []))) (.loop (rec .ready none)); rwa [World.size_alloc] at this
  have hK1 : W1.heap[w.heap.size]? = some (.deferred (some [])) := by
    rw [← hW1]; exact (Below.heap_alloc _ _ _ (by simp)).trans (World.alloc_heap_new w _)
  have hb1 : Below w.heap.size w W1 := by
    rw [← hW1]; exact ((Below.refl _ w).alloc (Nat.le_refl _) _).alloc (by simp) _
  have hI1 : I 0 W1 := hIs 0 w W1 h0 (Apart.of_below hb1)
  have hs1 : W1.heap.size = w.heap.size + 2 := by rw [← hW1]; simp
  refine ⟨w.heap.size + 1, [{ target := .collected w.heap.size, args := #[] }], W1, { target := .fn (.func 80) #[.pointer (some ⟨bl, 0, none⟩), .pointer (some ⟨bw, 0, none⟩)], args := #[.func (.yield (w.heap.size + 1)) #[] #[]] }, W1, 80,
    #[.func (.yield (w.heap.size + 1)) #[] #[], .pointer (some ⟨bl, 0, none⟩), .pointer (some ⟨bw, 0, none⟩)], W1, ?_, ?_, ?_, ?_, fun _ => by omega, ?_⟩
  · rw [← hW1, hrec]; exact run_enterLoop_outer _ _ _ _ _
  · simp only [resolve, hg]
    simp [go_sem]
  · intro f' _; exact trivial
  · simp [invoke, go_sem]
  · refine (ways_in (n - 1) (by omega) (w.heap.size + 1) bl bw N a0 cap0 l wd
      (fun m W => I m W ∧ w.heap.size + 2 ≤ W.heap.size ∧ W.heap[w.heap.size + 1]? = some (.loop (rec .ready none)) ∧ W.heap[w.heap.size]? = some (.deferred (some [])))
      HN hl9 h12 ?_ (fun m W h => hIc m W h.1) (fun m W h hm hf => ⟨hIn m W h.1 hm hf, h.2⟩) ?_ W1 ⟨hI1, by omega, hL1, hK1⟩).mono ?_
    · rintro m W W' ⟨h1, h2, h3, h4⟩ hb
      exact ⟨hIs m W W' h1 (Apart.of_below hb), Nat.le_trans h2 hb.size, (hb.block _ (by omega)).trans h3, (hb.block _ (by omega)).trans h4⟩
    · rintro m x W ⟨hi, hsz, hl, hk⟩ hm hf ⟨W0, ⟨_, hsz0, _, _⟩, hox⟩
      have hlt : w.heap.size + 1 < W.heap.size := by omega
      have hy := run_yield (P := Try.prog) (args := #[x]) hl (by rw [hrec]; exact hps.symm)
      rw [hrec] at hy
      refine ⟨fn, _, assign, body, hy, roundIn_of_wpIn trivial (hassign x W _ ?_)⟩
      clear hy
      refine ⟨_, run_beginRound hl (by rw [hrec]), ?_⟩
      have hap : Apart w.heap.size W (W.putObj (w.heap.size + 1) (.loop { rec .ready none with state := .busy })) := Apart.putObj W _ (.inr rfl)
      have hl2 : (W.putObj (w.heap.size + 1) (.loop { rec .ready none with state := .busy })).heap[w.heap.size + 1]? = some (.loop { rec .ready none with state := .busy }) := World.putObj_heap_same hlt
      have hk2 : (W.putObj (w.heap.size + 1) (.loop { rec .ready none with state := .busy })).heap[w.heap.size]? = some (.deferred (some [])) := (World.putObj_heap_other (by omega)).trans hk
      refine wpIn_mono (hbody m x _ (hIs m _ _ hi hap) (Nat.le_trans hsz hap.size) hm hf ((hap.orows hox hsz0).mono hsz0)) ?_
      rintro e a3 W3 ⟨rfl, hi3, hk3, hl3⟩
      rw [hl2] at hl3
      rw [hk2] at hk3
      have hlt3 : w.heap.size + 1 < W3.heap.size := (Array.getElem?_eq_some_iff.1 hl3).1
      have hr := run_endRound (P := Try.prog) none hl3
      rw [hrec] at hr
      refine ⟨_, _, hr, rfl, hIs _ _ _ hi3 (Apart.putObj W3 _ (.inr rfl)), ?_, ?_, ?_⟩
      · exact Nat.le_trans (by omega) (Apart.putObj (D := w.heap.size) W3 _ (.inr rfl)).size
      · rw [hrec]; exact World.putObj_heap_same hlt3
      · exact (World.putObj_heap_other (by omega)).trans hk3
    · rintro e W2 ⟨⟨v, rfl⟩, hi2, hsz2, hl2, hk2⟩
      have hend := run_endLoop (P := Try.prog) hl2 (by rw [hrec]; simp)
      rw [show (rec .ready none).pending = none from by rw [hrec]] at hend
      refine ⟨none, _, hend, ?_⟩
      exact hQ _ (hIs _ _ _ hi2 (Apart.putObj W2 _ (.inr rfl))) ((World.putObj_heap_other (by omega)).trans hk2)
end Go.Proofs.Ytfajllfedhifkaa
