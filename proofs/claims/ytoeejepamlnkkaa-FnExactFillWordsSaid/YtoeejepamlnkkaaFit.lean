/- Contract: countFitting. -/
import Derived.Test.YtoeejepamlnkkaaPlainFw
import Derived.Test.YtoeejepamlnkkaaWay
import Derived.Test.YtoeejepamlnkkaaLinesV
namespace Go.Proofs.Ytoeejepamlnkkaa
open Go.RowKit
set_option maxRecDepth 100000

namespace pl
theorem szJ_bd {l : List ByteArray} {M : Nat} (h : ∀ i, i < l.length → (nth l i).size ≤ M) : ∀ k, k ≤ l.length → szJ (l.take k) ≤ (M + 1) * k
  | 0, _ => by rw [List.take_zero]; unfold szJ; rw [joinB_nil, bs_size]; exact Nat.zero_le _
  | k + 1, hk => by
    have ih := szJ_bd h k (by omega)
    have hx := h k (by omega)
    have hs := szJ_step (l := l) (k := k) (by omega) rfl
    rw [Nat.mul_succ]
    split at hs <;> omega
theorem szJ_zero (l : List ByteArray) : szJ (l.take 0) = 0 := by rw [List.take_zero]; unfold szJ; rw [joinB_nil]; rfl
end pl

/-- a block of three cells that the call owns -/
theorem blk3 {w : World} {g : Nat} {a b c : Value} {t : TypeId} (h : w.heap[g]? = some (.cells #[a, b, c] t (0, 0))) (a' b' c' : Value) :
    (w.cell? ⟨g, 0, none⟩ = some a ∧ w.cell? ⟨g, 1, none⟩ = some b ∧ w.cell? ⟨g, 2, none⟩ = some c) ∧
    (w.frozen? ⟨g, 0, none⟩ = false ∧ w.frozen? ⟨g, 1, none⟩ = false ∧ w.frozen? ⟨g, 2, none⟩ = false) ∧
    ((w.setCell ⟨g, 0, none⟩ a').cell? ⟨g, 1, none⟩ = some b ∧ ((w.setCell ⟨g, 0, none⟩ a').setCell ⟨g, 1, none⟩ b').cell? ⟨g, 2, none⟩ = some c) ∧
    (((w.setCell ⟨g, 0, none⟩ a').setCell ⟨g, 1, none⟩ b').setCell ⟨g, 2, none⟩ c').heap[g]? = some (.cells #[a', b', c'] t (0, 0)) := by
  refine ⟨⟨?_, ?_, ?_⟩, ⟨?_, ?_, ?_⟩, ⟨?_, ?_⟩, ?_⟩ <;> simp [World.cell?, World.frozen?, World.setCell, Array.getElem?_modify, h]

theorem rowWith_at (f k z Z : Nat) (x : ByteArray) (w : World) (hk : k ≤ 1000000) (hz : z ≤ 1000000) (hx : x.size ≤ 1000000) (h0 : k = 0 → z = 0) (hZ : Z = if k = 0 then x.size else z + 1 + x.size) :
    Calls Try.prog 53 #[.agg #[.int .i64 f, .int .i64 k, .int .i64 z], .string x] w fun e w' => e = .returned (.agg #[.int .i64 f, .int .i64 ((k + 1 : Nat) : Int), .int .i64 Z]) ∧ Below w.heap.size w w' := by
  by_cases hk0 : k = 0
  · have hz0 := h0 hk0
    rw [if_pos hk0] at hZ
    subst hk0 hz0 hZ
    exact rowWith_first f x w hx
  · rw [if_neg hk0] at hZ
    subst hZ
    exact rowWith_more f k z x w (by omega) hk hz hx

set_option maxHeartbeats 2000000 in
theorem countFit_any (l : List ByteArray) (wd : Int) (v : Value) (w : World) (hr : RStrs w v l) (hlen : l.length ≤ 120) (hsz : ∀ i, i < l.length → (nth l i).size ≤ 120) :
    Calls Try.prog 46 #[v, .int .i64 wd] w fun e w' => e = .returned (.int .i64 (pl.cfit wd l)) ∧ Below w.heap.size w w' := by
  have HBD := Lib.hid (pl.szJ_bd hsz)
  obtain ⟨n, hn⟩ : ∃ n, n = l.length := ⟨_, rfl⟩
  have HN := Lib.hid hn
  have HSZ := Lib.hid hsz
  have hrr := Lib.hid hr
  obtain ⟨a0, cap0, rfl⟩ := hr.slice
  rw [← hn] at hlen hrr ⊢
  clear hn hr hsz
  go_enter Try.func46, Try.ntmps46
  go_wp2_with fail
  go_loopw [10] (fun iv wr => ∃ (k z : Nat), k ≤ n ∧ iv = .int .i64 k ∧ Hid (z = pl.szJ (l.take k)) ∧ Hid (0 < k → (z : Int) ≤ wd) ∧ wr.heap[w.heap.size]? = some (.cells #[.int .i64 0, .int .i64 k, .int .i64 z] 66 (0, 0)) ∧ Below w.heap.size w wr) (fun iv _ => n - (intOf iv).toNat)
  case atStart => exact ⟨0, 0, Nat.zero_le _, rfl, Lib.hid (pl.szJ_zero l).symm, Lib.hid (fun h => absurd h (by omega)), heap_alloc_new w _, (Below.refl _ _).alloc (Nat.le_refl _) _⟩
  case round =>
    obtain ⟨k, z, hk, rfl, hz, hfit, hblk, hbel⟩ := hrel
    by_cases hlt : k < n
    · have hkl : Hid (k < l.length) := Lib.hid (by rw [← HN.out]; exact hlt)
      obtain ⟨b1, o1, rfl, hx⟩ := hrr.out.at HN.out hbel hlt
      have hxm := HSZ.out k hkl.out
      obtain ⟨x, HX⟩ : ∃ x, Hid (nth l k = x) := ⟨_, Lib.hid rfl⟩
      rw [HX.out] at hx hxm
      have hzb : z ≤ 14520 := by have := HBD.out k (by have := hkl.out; omega); rw [← hz.out] at this; omega
      obtain ⟨Z, HZ⟩ : ∃ Z, Hid (Z = if k = 0 then x.size else z + 1 + x.size) := ⟨_, Lib.hid rfl⟩
      have hZs : Hid (Z = pl.szJ (l.take (k + 1))) := Lib.hid (by rw [pl.szJ_step hkl.out HX.out, HZ.out, hz.out])
      have hz0 : Hid (k = 0 → z = 0) := Lib.hid (fun h => by rw [hz.out, h]; exact pl.szJ_zero l)
      obtain ⟨⟨c0, c1, c2⟩, hdrop⟩ := blk3 hblk (.int .i64 0) (.int .i64 0) (.int .i64 0)
      have HBLK := Lib.hid hblk
      have HBEL := Lib.hid hbel
      have hgw : w.heap.size < wr.heap.size := (Array.getElem?_eq_some_iff.1 hblk).1
      clear hblk hbel hdrop
      go_wp2_with fail
      refine (rowWith_at 0 k z Z x _ (by omega) (by omega) (by omega) hz0.out HZ.out).mono ?_
      rintro e w2 ⟨rfl, hb2⟩
      have hblk2 : w2.heap[w.heap.size]? = some (.cells #[.int .i64 0, .int .i64 k, .int .i64 z] 66 (0, 0)) := (hb2.block _ hgw).trans HBLK.out
      obtain ⟨⟨d0, d1, d2⟩, ⟨f0, f1, f2⟩, ⟨e1, e2⟩, hb5⟩ := blk3 hblk2 (.int .i64 0) (.int .i64 ((k : Int) + 1)) (.int .i64 Z)
      have HB2 := Lib.hid (HBEL.out.trans (hb2.mono HBEL.out.size))
      have HB5 := Lib.hid (((HB2.out.setCell (p := ⟨w.heap.size, 0, none⟩) (Nat.le_refl _) (.int .i64 0)).setCell (p := ⟨w.heap.size, 1, none⟩) (Nat.le_refl _) (.int .i64 ((k : Int) + 1))).setCell (p := ⟨w.heap.size, 2, none⟩) (Nat.le_refl _) (.int .i64 Z))
      have HBLK5 := Lib.hid hb5
      clear hb2 hblk2 hb5 c0 c1 c2 hx
      by_cases hover : wd < (Z : Int)
      · have hr2 : Hid (pl.cfit wd l = k) := Lib.hid (pl.cfit_at hkl.out (fun h => by rw [← hz.out]; exact hfit.out h) (by rw [← hZs.out]; exact hover))
        go_wp2_with fail
        go_ret
        exact ⟨by rw [hr2.out]; rfl, HB5.out⟩
      · have hf2 : Hid (0 < k + 1 → (Z : Int) ≤ wd) := Lib.hid (fun _ => by omega)
        go_wp2_with fail
        go_roundw
        case rel => exact ⟨k + 1, Z, by omega, by go_num, hZs, hf2, HBLK5.out, HB5.out⟩
        case measure => simp [intOf]; omega
    · obtain rfl : k = n := by omega
      have hr2 : Hid (pl.cfit wd l = k) := Lib.hid (by
        rw [HN.out]
        refine pl.cfit_all (fun h => ?_)
        have h1 := hfit.out (by rw [HN.out]; exact h)
        rw [hz.out, HN.out, List.take_length] at h1
        exact h1)
      go_wp2_with fail
      go_ret
      exact ⟨by rw [hr2.out]; rfl, hbel⟩
end Go.Proofs.Ytoeejepamlnkkaa
