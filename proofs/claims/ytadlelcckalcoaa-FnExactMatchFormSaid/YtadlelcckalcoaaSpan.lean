/- What a call made, with the blocks in which it lies: so that what is made apart stays while one is written. -/
import Derived.Test.YtadlelcckalcoaaMarkP
import Derived.Test.YtadlelcckalcoaaArgs
import Derived.Test.YtadlelcckalcoaaInts
namespace Go.Proofs.Ytadlelcckalcoaa
open Go.RowKit
set_option maxRecDepth 100000
set_option linter.unusedVariables false

/-- only blocks from D up to E were written, of those that were there -/
structure Touch (D E : Nat) (w w' : World) : Prop where
  os : w'.os = w.os
  tape : w'.tape = w.tape
  output : w'.output = w.output
  size : w.heap.size ≤ w'.heap.size
  block : ∀ b, b < w.heap.size → (b < D ∨ E ≤ b) → w'.heap[b]? = w.heap[b]?
theorem Touch.toBelow {B D E : Nat} {w w' : World} (h : Touch D E w w') (hB : B ≤ D) (hw : B ≤ w.heap.size) : Below B w w' :=
  ⟨h.os, h.tape, h.output, h.size, fun b hb => h.block b (by omega) (.inl (by omega))⟩
theorem Touch.ofGrown {D E : Nat} {w w' : World} {r : Option Nat} (hg : w.grownBy w' r) (h : ∀ k, r = some k → D ≤ k ∧ k < E) : Touch D E w w' :=
  ⟨hg.os, hg.tape, hg.output, hg.size, fun b hb hd => hg.block b hb (fun e => by have := h b e.symm; omega)⟩

def XS (D E : Nat) (w : World) (v : Value) (l : List ByteArray) : Prop := OStrs D w v l ∧ (∀ k, v.ownBlock = some k → k < E) ∧ D ≤ E ∧ E ≤ w.heap.size
def XI (D E : Nat) (w : World) (v : Value) (l : List Int) : Prop := OInts D w v l.length l ∧ (∀ k, v.ownBlock = some k → k < E) ∧ D ≤ E ∧ E ≤ w.heap.size
def XP (D E : Nat) (w : World) (v : Value) (ps : pl.Gs) : Prop := ∃ us, OPs D w v us ps ∧ (∀ k, v.ownBlock = some k → k < E) ∧ (∀ i k, i < us.length → (nthV us i).ownBlock = some k → k < E) ∧ D ≤ E ∧ E ≤ w.heap.size

theorem OStrs.x {D : Nat} {w : World} {v : Value} {l : List ByteArray} (h : OStrs D w v l) (hD : D ≤ w.heap.size) : XS D w.heap.size w v l := ⟨h, fun k hk => (World.ownsRow.lt h k hk).2, hD, Nat.le_refl _⟩
theorem ints_x {D : Nat} {w : World} {v : Value} {l : List Int} (h : OInts D w v l.length l) (hD : D ≤ w.heap.size) : XI D w.heap.size w v l := ⟨h, fun k hk => (World.ownsRow.lt h k hk).2, hD, Nat.le_refl _⟩
theorem HPs.x {D : Nat} {w : World} {v : Value} {ps : pl.Gs} (h : HPs D w v ps) (hD : D ≤ w.heap.size) : XP D w.heap.size w v ps := by
  obtain ⟨us, h⟩ := h
  exact ⟨us, h, fun k hk => (World.ownsRow.lt h.1 k hk).2, h.lt, hD, Nat.le_refl _⟩
theorem XS.reads {D E : Nat} {w : World} {v : Value} {l : List ByteArray} (h : XS D E w v l) : RStrs w v l := h.1.reads
theorem XS.lreads {D E : Nat} {w : World} {v : Value} {l : List ByteArray} (h : XS D E w v l) : LStrs w v l := h.1.lreads
theorem XI.reads {D E : Nat} {w : World} {v : Value} {l : List Int} (h : XI D E w v l) : RInts w v l := ints_reads h.1 rfl
theorem XP.reads {D E : Nat} {w : World} {v : Value} {ps : pl.Gs} (h : XP D E w v ps) : RPs w v ps := by
  obtain ⟨us, h, _⟩ := h; exact h.reads

theorem XS.touch {D E D' E' : Nat} {w w' : World} {v : Value} {l : List ByteArray} (h : XS D E w v l) (ht : Touch D' E' w w') (hd : E ≤ D' ∨ E' ≤ D) : XS D E w' v l := by
  obtain ⟨h1, h2, h3, h4⟩ := h
  exact ⟨own_keep h1 (fun k hk => ht.block k (World.ownsRow.lt h1 k hk).2 (by have := h2 k hk; have := (World.ownsRow.lt h1 k hk).1; omega)), h2, h3, Nat.le_trans h4 ht.size⟩
theorem XI.touch {D E D' E' : Nat} {w w' : World} {v : Value} {l : List Int} (h : XI D E w v l) (ht : Touch D' E' w w') (hd : E ≤ D' ∨ E' ≤ D) : XI D E w' v l := by
  obtain ⟨h1, h2, h3, h4⟩ := h
  exact ⟨own_keep h1 (fun k hk => ht.block k (World.ownsRow.lt h1 k hk).2 (by have := h2 k hk; have := (World.ownsRow.lt h1 k hk).1; omega)), h2, h3, Nat.le_trans h4 ht.size⟩
theorem XP.touch {D E D' E' : Nat} {w w' : World} {v : Value} {ps : pl.Gs} (h : XP D E w v ps) (ht : Touch D' E' w w') (hd : E ≤ D' ∨ E' ≤ D) : XP D E w' v ps := by
  obtain ⟨us, h1, h2, h5, h3, h4⟩ := h
  refine ⟨us, ⟨own_keep h1.1 (fun k hk => ht.block k (World.ownsRow.lt h1.1 k hk).2 (by have := h2 k hk; have := (World.ownsRow.lt h1.1 k hk).1; omega)), h1.2.keep (fun i k hi hk => ht.block k (h1.2.lt i k hi hk).2 (by have := h5 i k hi hk; have := (h1.2.lt i k hi hk).1; omega))⟩, h2, h5, h3, Nat.le_trans h4 ht.size⟩
theorem touch_of_below {D : Nat} {w w' : World} (hb : Below w.heap.size w w') : Touch D w.heap.size w w' := ⟨hb.os, hb.tape, hb.output, hb.size, fun b h _ => hb.block b h⟩
theorem touch_below {w w' : World} (hb : Below w.heap.size w w') (D : Nat) : Touch D D w w' := ⟨hb.os, hb.tape, hb.output, hb.size, fun b h _ => hb.block b h⟩
theorem XS.below {D E : Nat} {w w' : World} {v : Value} {l : List ByteArray} (h : XS D E w v l) (hb : Below w.heap.size w w') : XS D E w' v l := h.touch (touch_below hb E) (.inl (Nat.le_refl _))
theorem XI.below {D E : Nat} {w w' : World} {v : Value} {l : List Int} (h : XI D E w v l) (hb : Below w.heap.size w w') : XI D E w' v l := h.touch (touch_below hb E) (.inl (Nat.le_refl _))
theorem XP.below {D E : Nat} {w w' : World} {v : Value} {ps : pl.Gs} (h : XP D E w v ps) (hb : Below w.heap.size w w') : XP D E w' v ps := h.touch (touch_below hb E) (.inl (Nat.le_refl _))

theorem markS_x (D E k : Nat) (v : Value) (l : List ByteArray) (w : World) (h : XS D E w v l) (hk : 0 < k) (hk2 : k + l.length < 100000000) :
    Calls Try.prog 29 #[v, .int .i64 k] w fun e w' => e = .returned (.int .i64 ((k + l.length : Nat) : Int)) ∧ XS D E w' v (marks k l.length) ∧ Touch D E w w' :=
  (markStringS_any D k v l w h.1 hk hk2).mono fun e w' ⟨h1, h2, h3⟩ => ⟨h1, ⟨h2, h.2.1, h.2.2.1, Nat.le_trans h.2.2.2 h3.size⟩, Touch.ofGrown h3 (fun b hb => ⟨(World.ownsRow.lt h.1 b hb).1, h.2.1 b hb⟩)⟩
theorem markI_x (D E k : Nat) (v : Value) (l : List Int) (w : World) (h : XI D E w v l) (hk : 0 < k) (hk2 : k + l.length < 100000000) :
    Calls Try.prog 30 #[v, .int .i64 k] w fun e w' => e = .returned (.int .i64 ((k + l.length : Nat) : Int)) ∧ XI D E w' v (marksI k l.length) ∧ Touch D E w w' :=
  (markIntS_any D k v l w h.1 hk hk2).mono fun e w' ⟨h1, h2, h3⟩ => ⟨h1, ⟨by rw [marksI_len]; exact h2, h.2.1, h.2.2.1, Nat.le_trans h.2.2.2 h3.size⟩, Touch.ofGrown h3 (fun b hb => ⟨(World.ownsRow.lt h.1 b hb).1, h.2.1 b hb⟩)⟩
theorem markP_x (D E k : Nat) (v : Value) (ps : pl.Gs) (w : World) (h : XP D E w v ps) (hk : 0 < k) (hk2 : k + pl.totTo ps ps.length < 100000000) (hl : ps.length ≤ 2000000) :
    Calls Try.prog 31 #[v, .int .i64 k] w fun e w' => e = .returned (.int .i64 ((k + pl.totTo ps ps.length : Nat) : Int)) ∧ XP D E w' v (marksP k ps) ∧ Touch D E w w' := by
  obtain ⟨us, h1, h2, h5, h3, h4⟩ := h
  exact (markSS_any D k v us ps w h1 hk hk2 hl).mono fun e w' ⟨q1, q2, q3⟩ => ⟨q1, ⟨us, q2, h2, h5, h3, Nat.le_trans h4 q3.size⟩, ⟨q3.os, q3.tape, q3.output, q3.size, fun b hb hd => q3.block b hb (fun i hi e => by have := (h1.2.lt i b hi e).1; have := h5 i b hi e; omega)⟩⟩
theorem heldS_x {D E : Nat} (k n : Nat) (v : Value) (w : World) (h : XS D E w v (marks k n)) (hk : 0 < k) (hk2 : k + n < 100000000) :
    Calls Try.prog 34 #[v, .int .i64 k] w fun e w' => e = .returned (.int .i64 ((k + n : Nat) : Int)) ∧ Below w.heap.size w w' := heldStringS_any k n v w h.reads hk hk2
theorem heldP_x {D E : Nat} (k : Nat) (ps : pl.Gs) (v : Value) (w : World) (h : XP D E w v (marksP k ps)) (hk : 0 < k) (hk2 : k + pl.totTo ps ps.length < 100000000) (hl : ps.length ≤ 2000000) :
    Calls Try.prog 32 #[v, .int .i64 k] w fun e w' => e = .returned (.int .i64 ((k + pl.totTo ps ps.length : Nat) : Int)) ∧ Below w.heap.size w w' := heldSS_any k ps v w h.reads hk hk2 hl
end Go.Proofs.Ytadlelcckalcoaa
