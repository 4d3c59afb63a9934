/- Contracts: the reader of the drawn arguments (newReader, pick, one, of). -/
import Derived.Test.YtadlelcckalcoaaRows
import Derived.WalkKit
import Derived.WalkSpells
import Derived.WalkLawsBesides
import Derived.Lib.Hide
import Derived.Outline
import Derived.Deep.QuietTactic
import Derived.BigQuiet
import Derived.IntWalk
namespace Go.Proofs.Ytadlelcckalcoaa
open Go.RowKit
set_option maxRecDepth 100000

theorem xor_nonneg (a b : Nat) (ha : a < 2 ^ 62) (hb : b < 2 ^ 62) : 0 ≤ bits .xor .i64 (a : Int) (b : Int) ∧ bits .xor .i64 (a : Int) (b : Int) < 2 ^ 62 := by
  have e : bits .xor .i64 (a : Int) (b : Int) = ((a ^^^ b : Nat) : Int) := by
    unfold bits
    have h1 : (BitVec.ofInt IntKind.i64.bits (a : Int)).toNat = a := by
      show (BitVec.ofInt 64 (a : Int)).toNat = a
      simp; omega
    have h2 : (BitVec.ofInt IntKind.i64.bits (b : Int)).toNat = b := by
      show (BitVec.ofInt 64 (b : Int)).toNat = b
      simp; omega
    simp only [BitVec.toNat_xor, h1, h2]
    have h3 : a ^^^ b < 2 ^ 62 := Nat.xor_lt_two_pow ha hb
    exact IntWalk.i64_in _ ⟨by omega, by omega⟩
  have h3 : a ^^^ b < 2 ^ 62 := Nat.xor_lt_two_pow ha hb
  rw [e]; omega

theorem mix_ok (x y p n : Nat) (m : Int) (hx : x ≤ 255) (hy : y ≤ 255) (hp : p ≤ 1000000) :
    0 ≤ (bits .xor .i64 ((x : Int) * 131 + (y : Int) * 1117 + (p : Int) * 29 + (p : Int) / (n : Int) * 53) (((x : Int) * 131 + (y : Int) * 1117 + (p : Int) * 29 + (p : Int) / (n : Int) * 53) / 64)).tmod m ∧
    (1 ≤ m → (bits .xor .i64 ((x : Int) * 131 + (y : Int) * 1117 + (p : Int) * 29 + (p : Int) / (n : Int) * 53) (((x : Int) * 131 + (y : Int) * 1117 + (p : Int) * 29 + (p : Int) / (n : Int) * 53) / 64)).tmod m < m) := by
  have h1 : p / n ≤ p := Nat.div_le_self _ _
  obtain ⟨q, hq⟩ : ∃ q, q = x * 131 + y * 1117 + p * 29 + p / n * 53 := ⟨_, rfl⟩
  have e : (x : Int) * 131 + (y : Int) * 1117 + (p : Int) * 29 + (p : Int) / (n : Int) * 53 = (q : Int) := by rw [hq]; simp
  have hqb : q < 2 ^ 62 := by omega
  rw [e, show (q : Int) / 64 = ((q / 64 : Nat) : Int) from by omega]
  have hx := xor_nonneg q (q / 64) hqb (by omega)
  rw [Int.tmod_eq_emod_of_nonneg hx.1]
  refine ⟨?_, fun hm => Int.emod_lt_of_pos _ (by omega)⟩
  by_cases hm : m = 0
  · rw [hm, Int.emod_zero]; exact hx.1
  · exact Int.emod_nonneg _ hm

/-- the reader in block g: its bytes lie below B, and it has picked p numbers -/
structure Rdr (B g n c p : Nat) (ao : Option Addr) (w : World) : Prop where
  lies : w.heap[g]? = some (.cells #[.slice ao n c, .int .i64 p] 111 (0, 0))
  above : B ≤ g
  few : n ≤ 2000
  bytes : n = 0 ∨ ∃ b off, ao = some ⟨b, off, none⟩ ∧ b < B ∧ ∀ i, i < n → ∃ x : Nat, x ≤ 255 ∧ w.cell? ⟨b, off + i, none⟩ = some (.int .u8 x)

theorem Rdr.cell0 {B g n c p : Nat} {ao : Option Addr} {w : World} (h : Rdr B g n c p ao w) : w.cell? ⟨g, 0, none⟩ = some (.slice ao n c) := by simp [World.cell?, h.lies]
theorem Rdr.cell1 {B g n c p : Nat} {ao : Option Addr} {w : World} (h : Rdr B g n c p ao w) : w.cell? ⟨g, 1, none⟩ = some (.int .i64 p) := by simp [World.cell?, h.lies]
theorem Rdr.free {B g n c p : Nat} {ao : Option Addr} {w : World} (h : Rdr B g n c p ao w) : w.frozen? ⟨g, 1, none⟩ = false := by simp [World.frozen?, h.lies]
theorem Rdr.lt {B g n c p : Nat} {ao : Option Addr} {w : World} (h : Rdr B g n c p ao w) : g < w.heap.size := (Array.getElem?_eq_some_iff.1 h.lies).1
theorem Rdr.next {B g n c p : Nat} {ao : Option Addr} {w : World} (h : Rdr B g n c p ao w) : Rdr B g n c (p + 1) ao (w.setCell ⟨g, 1, none⟩ (.int .i64 ((p : Int) + 1))) := by
  refine ⟨?_, h.above, h.few, ?_⟩
  · simp [World.setCell, Array.getElem?_modify, h.lies]
  · rcases h.bytes with h0 | ⟨b, off, hb, hlt, hc⟩
    · exact .inl h0
    · refine .inr ⟨b, off, hb, hlt, fun i hi => ?_⟩
      obtain ⟨x, hx, hcx⟩ := hc i hi
      exact ⟨x, hx, by rw [((Below.refl B w).setCell (p := ⟨g, 1, none⟩) h.above _).cell (p := ⟨b, off + i, none⟩) hlt]; exact hcx⟩
theorem Rdr.drewN {B g n c p k : Nat} {ao : Option Addr} {w : World} (h : Rdr B g n c p ao w) : Rdr B g n c p ao (w.drewN k) := ⟨h.lies, h.above, h.few, h.bytes⟩
theorem Rdr.below {B g n c p C : Nat} {ao : Option Addr} {w w' : World} (h : Rdr B g n c p ao w) (hB : B ≤ C) (hg : g < C) (hb : Below C w w') : Rdr B g n c p ao w' := by
  refine ⟨(hb.block g hg).trans h.lies, h.above, h.few, ?_⟩
  rcases h.bytes with h0 | ⟨b, off, hbo, hlt, hc⟩
  · exact .inl h0
  · refine .inr ⟨b, off, hbo, hlt, fun i hi => ?_⟩
    obtain ⟨x, hx, hcx⟩ := hc i hi
    exact ⟨x, hx, by rw [hb.cell (p := ⟨b, off + i, none⟩) (by show b < C; omega)]; exact hcx⟩

theorem grown_store {g : Nat} (w : World) (o : Nat) (v : Value) : w.grownBy (w.setCell ⟨g, o, none⟩ v) (some g) :=
  ⟨rfl, rfl, rfl, by simp [World.setCell], fun k _ hk => Below.heap_setCell _ _ _ _ (fun e => hk (by simp [e]))⟩
theorem grown_drewN {row : Option Nat} {a b : World} (h : a.grownBy b row) (k : Nat) : a.grownBy (b.drewN k) row := ⟨h.os, h.tape, h.output, h.size, h.block⟩

/-- what a pick leaves -/
def Picked (m : Int) (B g n c p : Nat) (ao : Option Addr) (w : World) (e : Ending) (w' : World) : Prop :=
  ∃ r : Int, e = .returned (.int .i64 r) ∧ 0 ≤ r ∧ (1 ≤ m → r < m) ∧ Rdr B g n c (p + 1) ao w' ∧ w.grownBy w' (some g)

set_option maxHeartbeats 1000000 in
theorem pick_any (m : Int) (B g n c p : Nat) (ao : Option Addr) (w : World) (h : Rdr B g n c p ao w) (hm : m ≤ 1000000) (hp : p ≤ 1000000) :
    Calls Try.prog 44 #[.pointer (some ⟨g, 0, none⟩), .int .i64 m] w (Picked m B g n c p ao w) := by
  have hc0 := h.cell0
  have hc1 := h.cell1
  have hf := h.free
  have hnext := Lib.hid h.next
  by_cases h1 : m < 1
  · go_enter Try.func44, Try.ntmps44
    go_wp2
    go_ret
    exact ⟨0, rfl, by omega, by omega, hnext.out, grown_store _ _ _⟩
  · rcases h.bytes with h0 | ⟨b, off, rfl, hlt, hc⟩
    · subst h0
      go_enter Try.func44, Try.ntmps44
      go_wp2
      go_ret
      exact ⟨0, rfl, by omega, by omega, hnext.out, grown_store _ _ _⟩
    · by_cases hn0 : n = 0
      · subst hn0
        clear hc
        go_enter Try.func44, Try.ntmps44
        go_wp2
        go_ret
        exact ⟨0, rfl, by omega, by omega, hnext.out, grown_store _ _ _⟩
      · have h0' : ((n : Int) == 0) = false := by simp; omega
        have hn1 : 1 ≤ n := by omega
        have hn2 := h.few
        by_cases hk : p < n
        · obtain ⟨x, hx, hcx⟩ := hc p hk
          have hcx' : (w.setCell ⟨g, 1, none⟩ (.int .i64 ((p : Int) + 1))).cell? ⟨b, off + p, none⟩ = some (.int .u8 x) := by rw [((Below.refl B w).setCell (p := ⟨g, 1, none⟩) h.above _).cell (p := ⟨b, off + p, none⟩) hlt]; exact hcx
          have hbg : ¬ b = g := by have := h.above; omega
          clear hc h
          go_enter Try.func44, Try.ntmps44
          go_wp2
          go_ret
          exact ⟨_, rfl, Int.emod_nonneg _ (by omega), fun _ => Int.emod_lt_of_pos _ (by omega), hnext.out, grown_store _ _ _⟩
        · have hbel := (Below.refl B w).setCell (p := ⟨g, 1, none⟩) h.above (.int .i64 ((p : Int) + 1))
          obtain ⟨x, hx, hcx⟩ := hc (p % n) (Nat.mod_lt _ (by omega))
          obtain ⟨y, hy, hcy⟩ := hc ((p * 7 + 3) % n) (Nat.mod_lt _ (by omega))
          have hcx' := (hbel.cell (p := ⟨b, off + p % n, none⟩) hlt).trans hcx
          have hcy' := (hbel.cell (p := ⟨b, off + (p * 7 + 3) % n, none⟩) hlt).trans hcy
          have hbg : ¬ b = g := by have := h.above; omega
          have m1 : 0 ≤ (p : Int) % (n : Int) := Int.emod_nonneg _ (by omega)
          have m2 : (p : Int) % (n : Int) < n := Int.emod_lt_of_pos _ (by omega)
          have m3 : 0 ≤ ((p : Int) * 7 + 3) % (n : Int) := Int.emod_nonneg _ (by omega)
          have m4 : ((p : Int) * 7 + 3) % (n : Int) < n := Int.emod_lt_of_pos _ (by omega)
          have m5 : 0 ≤ (p : Int) / (n : Int) := Int.ediv_nonneg (by omega) (by omega)
          have m6 : (p : Int) / (n : Int) ≤ p := Int.ediv_le_self _ (by omega)
          clear hc h hbel hcx hcy
          go_enter Try.func44, Try.ntmps44
          go_wp2
          go_quiet (fail)
          go_wp2
          go_ret
          refine ⟨_, rfl, ?_, ?_, hnext.out.drewN, grown_drewN (grown_store _ _ _) _⟩
          · exact (mix_ok x y p n m hx hy hp).1
          · exact (mix_ok x y p n m hx hy hp).2
end Go.Proofs.Ytadlelcckalcoaa
