/- Contracts: the reader's one, of, newReader, someWord, someText. -/
import Derived.Test.YtadlelcckalcoaaDraw
import Derived.Laws.ResultCell
namespace Go.Proofs.Ytadlelcckalcoaa
open Go.RowKit
set_option maxRecDepth 100000

/-- a slice of integers that came in -/
def IsRow (k : IntKind) (w : World) (a : Option Addr) (len cap : Nat) (zs : List Int) : Prop :=
  (a = none ∧ len = 0 ∧ cap = 0 ∧ zs = []) ∨
  ∃ x, a = some x ∧ len ≤ cap ∧ cap ≤ maxLen ∧ zs.length = cap ∧ (∀ i, i < zs.length → w.cell? (x.add i) = some (.int k (zs.getD i 0))) ∧ ∀ n ∈ zs, (Lit.int k n).wf = true

def okStrs (M : Nat) (cs : Array Value) : Prop := ∀ v ∈ cs.toList, ∃ s, v = .string s ∧ s.size ≤ M
def okInts (lo hi : Int) (cs : Array Value) : Prop := ∀ v ∈ cs.toList, ∃ x : Int, v = .int .i64 x ∧ lo ≤ x ∧ x ≤ hi

theorem grown_refl' {row : Option Nat} {a : World} : a.grownBy a row := ⟨rfl, rfl, rfl, Nat.le_refl _, fun _ _ _ => rfl⟩
theorem grown_tr {row : Option Nat} {a b c : World} (h : a.grownBy b row) (k : b.grownBy c row) : a.grownBy c row :=
  ⟨k.os.trans h.os, k.tape.trans h.tape, k.output.trans h.output, Nat.le_trans h.size k.size, fun i hi hn => (k.block i (Nat.lt_of_lt_of_le hi h.size) hn).trans (h.block i hi hn)⟩
theorem grown_of_below {row : Option Nat} {a b : World} (h : Below a.heap.size a b) : a.grownBy b row :=
  ⟨h.os, h.tape, h.output, h.size, fun i hi _ => h.block i hi⟩
theorem grown_al {row : Option Nat} (a : World) (o : Obj) : a.grownBy (a.alloc o) row := grown_of_below ((Below.refl _ _).alloc (Nat.le_refl _) o)

def GotStr (M q B g n c : Nat) (ao : Option Addr) (w : World) (e : Ending) (w' : World) : Prop :=
  ∃ s, e = .returned (.string s) ∧ s.size ≤ M ∧ ∃ p', p' ≤ q ∧ Rdr B g n c p' ao w' ∧ w.grownBy w' (some g)
def GotInt (lo hi : Int) (q B g n c : Nat) (ao : Option Addr) (w : World) (e : Ending) (w' : World) : Prop :=
  ∃ x : Int, e = .returned (.int .i64 x) ∧ lo ≤ x ∧ x ≤ hi ∧ ∃ p', p' ≤ q ∧ Rdr B g n c p' ao w' ∧ w.grownBy w' (some g)

set_option maxHeartbeats 1000000 in
theorem of_lit (M N : Nat) (cs : Array Value) (hN : cs.size = N) (hN0 : 0 < N) (hN1 : N ≤ 1000) (hok : okStrs M cs) (B g n c p : Nat) (ao : Option Addr) (w : World) (h : Rdr B g n c p ao w) (hp : p ≤ 999999) :
    Calls Try.prog 43 #[.pointer (some ⟨g, 0, none⟩), .slice (some ⟨w.heap.size, 0, none⟩) N N] (w.alloc (.cells cs 9)) (GotStr M (p + 1) B g n c ao w) := by
  have hg := h.lt
  have hR : Rdr B g n c p ao (w.alloc (.cells cs 9)) := by
    refine h.below (C := w.heap.size) ?_ hg ((Below.refl _ _).alloc (Nat.le_refl _) _)
    have := h.above; omega
  go_enter Try.func43, Try.ntmps43
  go_wp2_with fail
  refine (pick_any N B g n c p ao _ hR (by omega) (by omega)).mono ?_
  rintro e w2 ⟨r, rfl, hr0, hr1, hR2, hg2⟩
  have hrN := hr1 (by omega)
  obtain ⟨j, rfl⟩ := Int.eq_ofNat_of_zero_le hr0
  have hjN : j < N := by omega
  have hblk : w2.heap[w.heap.size]? = some (.cells cs 9 (0, 0)) := by
    rw [hg2.block _ (by simp) (by simp; omega)]
    exact heap_alloc_new w _
  have hj : j < cs.toList.length := by simp; omega
  obtain ⟨s, hs, hsM⟩ := hok _ (List.getElem_mem hj)
  have hcell : w2.cell? ⟨w.heap.size, j, none⟩ = some (.string s) := by
    simp only [World.cell?, hblk]
    rw [← hs]; simp
  have hgw := Lib.hid (grown_tr (grown_al w (.cells cs 9)) hg2)
  clear hblk hok hs hg2
  go_wp2
  go_ret
  exact ⟨s, rfl, hsM, p + 1, Nat.le_refl _, hR2, hgw.out⟩
set_option maxHeartbeats 1000000 in
theorem one_lit (lo hi : Int) (N : Nat) (cs : Array Value) (hN : cs.size = N) (hN0 : 0 < N) (hN1 : N ≤ 1000) (hok : okInts lo hi cs) (B g n c p : Nat) (ao : Option Addr) (w : World) (h : Rdr B g n c p ao w) (hp : p ≤ 999999) :
    Calls Try.prog 42 #[.pointer (some ⟨g, 0, none⟩), .slice (some ⟨w.heap.size, 0, none⟩) N N] (w.alloc (.cells cs 3)) (GotInt lo hi (p + 1) B g n c ao w) := by
  have hg := h.lt
  have hR : Rdr B g n c p ao (w.alloc (.cells cs 3)) := by
    refine h.below (C := w.heap.size) ?_ hg ((Below.refl _ _).alloc (Nat.le_refl _) _)
    have := h.above; omega
  go_enter Try.func42, Try.ntmps42
  go_wp2_with fail
  refine (pick_any N B g n c p ao _ hR (by omega) (by omega)).mono ?_
  rintro e w2 ⟨r, rfl, hr0, hr1, hR2, hg2⟩
  have hrN := hr1 (by omega)
  obtain ⟨j, rfl⟩ := Int.eq_ofNat_of_zero_le hr0
  have hjN : j < N := by omega
  have hblk : w2.heap[w.heap.size]? = some (.cells cs 3 (0, 0)) := by
    rw [hg2.block _ (by simp) (by simp; omega)]
    exact heap_alloc_new w _
  have hj : j < cs.toList.length := by simp; omega
  obtain ⟨s, hs, hsM, hsM2⟩ := hok _ (List.getElem_mem hj)
  have hcell : w2.cell? ⟨w.heap.size, j, none⟩ = some (.int .i64 s) := by
    simp only [World.cell?, hblk]
    rw [← hs]; simp
  have hgw := Lib.hid (grown_tr (grown_al w (.cells cs 3)) hg2)
  clear hblk hok hs hg2
  go_wp2
  go_ret
  exact ⟨s, rfl, hsM, hsM2, p + 1, Nat.le_refl _, hR2, hgw.out⟩

theorem row_reads {k : IntKind} {w : World} {a : Option Addr} {len cap : Nat} {zs : List Int} (h : IsRow k w a len cap zs) :
    (a = none ∧ len = 0 ∧ cap = 0) ∨ (len ≤ cap ∧ cap ≤ maxLen ∧ (0 < cap → ∃ b off, a = some ⟨b, off, none⟩ ∧ b < w.heap.size ∧ ∀ i, i < cap → ∃ x : Int, (Lit.int k x).wf = true ∧ w.cell? ⟨b, off + i, none⟩ = some (.int k x))) := by
  rcases h with ⟨h1, h2, h3, _⟩ | ⟨x, rfl, hl, hm, hz, hc, hw⟩
  · exact .inl ⟨h1, h2, h3⟩
  · refine .inr ⟨hl, hm, fun h0 => ?_⟩
    obtain ⟨b, off, spot⟩ := x
    have hc0 := hc 0 (by omega)
    have hspot : spot = none := by simpa [Addr.add] using World.cell?_spot hc0
    subst hspot
    have hadd : ∀ i, (⟨b, off, none⟩ : Addr).add i = ⟨b, off + i, none⟩ := fun i => by unfold Addr.add; split <;> simp_all
    refine ⟨b, off, rfl, ?_, fun i hi => ⟨zs.getD i 0, ?_, ?_⟩⟩
    · have := World.block_lt_of_cell? w _ hc0
      rw [hadd] at this; exact this
    · have hi' : i < zs.length := by omega
      have : zs.getD i 0 = zs[i] := by simp [List.getD, hi']
      rw [this]; exact hw _ (List.getElem_mem hi')
    · rw [← hadd]; exact hc i (by omega)

theorem byte_of {x : Int} (h : (Lit.int .u8 x).wf = true) : ∃ n : Nat, n ≤ 255 ∧ x = n := by
  have hx : 0 ≤ x ∧ x ≤ 255 := by simpa [Lit.wf, IntKind.min, IntKind.max, IntKind.signed, IntKind.bits] using h
  exact ⟨x.toNat, by omega, by omega⟩

set_option maxHeartbeats 1000000 in
theorem newReader_any (a : Option Addr) (len cap : Nat) (zs : List Int) (w : World) (hr : IsRow .u8 w a len cap zs) :
    Calls Try.prog 41 #[.slice a len cap] w fun e w' => ∃ n c, e = .returned (.pointer (some ⟨w.heap.size, 0, none⟩)) ∧ Rdr w.heap.size w.heap.size n c 0 a w' ∧ Below w.heap.size w w' := by
  have mk : ∀ n c, n ≤ 2000 → n ≤ len → Rdr w.heap.size w.heap.size n c 0 a (w.alloc (.cells #[.slice a n c, .int .i64 0] 111)) := by
    intro n c h1 h2
    refine ⟨heap_alloc_new w _, Nat.le_refl _, h1, ?_⟩
    rcases row_reads hr with ⟨_, h3, _⟩ | ⟨h3, h4, h5⟩
    · exact .inl (by omega)
    · by_cases h0 : n = 0
      · exact .inl h0
      · obtain ⟨b, off, rfl, hlt, hc⟩ := h5 (by omega)
        refine .inr ⟨b, off, rfl, hlt, fun i hi => ?_⟩
        obtain ⟨x, hx, hcx⟩ := hc i (by omega)
        obtain ⟨m, hm, rfl⟩ := byte_of hx
        exact ⟨m, hm, by rw [((Below.refl w.heap.size w).alloc (Nat.le_refl _) _).cell (p := ⟨b, off + i, none⟩) hlt]; exact hcx⟩
  have hlen : len ≤ 9223372036854775807 := by
    rcases row_reads hr with ⟨_, h3, _⟩ | ⟨h3, h4, h5⟩
    · omega
    · unfold maxLen at h4; omega
  by_cases hb : 2000 < len
  · have hcap : len ≤ cap ∧ cap ≤ 9223372036854775807 := by
      rcases row_reads hr with ⟨_, h3, _⟩ | ⟨h3, h4, h5⟩
      · omega
      · unfold maxLen at h4; exact ⟨h3, by omega⟩
    obtain ⟨hc1, hc2⟩ := hcap
    have MK := Lib.hid (mk 2000)
    clear mk hr
    go_enter Try.func41, Try.ntmps41
    go_wp2
    go_ret
    exact ⟨2000, _, rfl, MK.out _ (by omega) (by omega), (Below.refl _ _).alloc (Nat.le_refl _) _⟩
  · have MK := Lib.hid (mk len)
    clear mk hr
    go_enter Try.func41, Try.ntmps41
    go_wp2
    go_ret
    exact ⟨len, _, rfl, MK.out _ (by omega) (by omega), (Below.refl _ _).alloc (Nat.le_refl _) _⟩

theorem okStrs_nil (M : Nat) : okStrs M #[] := fun v h => by simp at h
theorem row_len {k : IntKind} {w : World} {a : Option Addr} {len cap : Nat} {zs : List Int} (h : IsRow k w a len cap zs) : len ≤ 9223372036854775807 := by
  rcases h with ⟨_, h, _⟩ | ⟨x, _, hl, hm, _⟩
  · omega
  · unfold maxLen at hm; omega
end Go.Proofs.Ytadlelcckalcoaa
