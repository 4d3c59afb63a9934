/- Contract: DrawQuoteCells. -/
import Derived.Test.YtgfpbnafehpopaaDoorDrawTb
namespace Go.Proofs.YtgfpbnafehpopaaDoor
open Go.RowKit
set_option maxRecDepth 100000
set_option linter.unusedVariables false

def DrewCells (w : World) (e : Ending) (w' : World) : Prop := ∃ v l, e = .returned v ∧ OStrs w.heap.size w' v l ∧ l.length ≤ 6 ∧ few 40 l ∧ Below w.heap.size w w'

set_option maxHeartbeats 4000000 in
theorem dQuoteCells_any (a : Option Addr) (len cap : Nat) (zs : List Int) (w : World) (hr : IsRow .u8 w a len cap zs) :
    Calls Tryd.prog 20 #[.slice a len cap] w (DrewCells w) := by
  obtain ⟨i0, hi, hz0, hz1, hz2⟩ := info_parts infoS
  go_enter Tryd.func20, Tryd.ntmps20
  go_wp2_with fail
  refine (newReader_any a len cap zs _ hr).mono ?_
  rintro e w1 ⟨n, c, rfl, hR1, hb1⟩
  have HB1 := Lib.hid hb1
  have hgw : w.heap.size < w1.heap.size := hR1.lt
  clear hb1
  go_wp2_with fail
  have hR2 : Rdr w.heap.size w.heap.size n c 0 a (w1.alloc (.cells #[] 9)) := hR1.below (C := w1.heap.size) (by omega) hR1.lt ((Below.refl _ _).alloc (Nat.le_refl _) _)
  have HQ2 : Hid (OStrs w1.heap.size (w1.alloc (.cells #[] 9)) (.slice (some ⟨w1.heap.size, 0, none⟩) 0 0) []) := Lib.hid (World.ownsRow_made _ _ _ (Nat.le_refl _) (by unfold maxLen; omega) rfl)
  have HG2 : Hid (w1.grownBy (w1.alloc (.cells #[] 9)) (some w.heap.size)) := Lib.hid (grown_al w1 _)
  have hsz2 : (w1.alloc (.cells #[] 9)).heap.size = w1.heap.size + 1 := by simp
  obtain ⟨w2, HW2⟩ : ∃ u, Hid (w1.alloc (.cells #[] 9) = u) := ⟨_, Lib.hid rfl⟩
  rw [HW2.out] at hR2 HQ2 HG2 hsz2 ⊢
  obtain ⟨D, HD⟩ : ∃ D, Hid (w1.heap.size = D) := ⟨_, Lib.hid rfl⟩
  rw [HD.out] at HQ2 hgw hsz2 ⊢
  rw [← hsz2]
  have hgD : w.heap.size < D := hgw
  refine (one_lit 0 6 7 _ rfl (by omega) (by omega) ?_ w.heap.size w.heap.size n c 0 a _ hR2 (by omega)).mono ?_
  · simp [okInts]
  rintro e w3 ⟨M, rfl, hM0, hM6, p3, hp3, hR3, hg3⟩
  obtain ⟨M, rfl⟩ := Int.eq_ofNat_of_zero_le hM0
  have HQ3 := Lib.hid (HQ2.out.read hg3 hgD)
  have HG3 := Lib.hid (grown_tr HG2.out hg3)
  have hD3 : D ≤ w3.heap.size := by have := hg3.size; omega
  have hwD : w.heap.size ≤ D := by omega
  clear hg3 HQ2 HG2 hR2 hR1 hsz2
  go_wp2_with fail
  go_loopw [4, 5] (fun cv mv wi => ∃ (j : Nat) (l : List ByteArray) (q : Nat), j ≤ M ∧ mv = .int .i64 ((M - j : Nat) : Int) ∧ Hid (l.length = j) ∧ Hid (OStrs D wi cv l) ∧ Hid (few 40 l) ∧ q ≤ 1 + 2 * j ∧ Rdr w.heap.size w.heap.size n c q a wi ∧ Hid (w1.grownBy wi (some w.heap.size)) ∧ D ≤ wi.heap.size) (fun _ mv _ => (intOf mv).toNat)
  case atStart => exact ⟨0, [], p3, Nat.zero_le _, rfl, Lib.hid rfl, HQ3, Lib.hid (few_nil _), by omega, hR3, HG3, hD3⟩
  case round =>
    obtain ⟨j, l, q, hjM, rfl, hll, HQ, hfl, hq, hRi, HGi, hDi⟩ := hrel
    obtain ⟨wi, rfl⟩ : ∃ wi : World, wi = wr := ⟨_, rfl⟩
    by_cases hlj : j < M
    · have hlji : (0 : Int) < ((M - j : Nat) : Int) := by omega
      have hne : ((M - j : Nat) : Int) - 1 = ((M - (j + 1) : Nat) : Int) := by omega
      have hwr : IntKind.i64.wrap (((M - j : Nat) : Int) - 1) = ((M - (j + 1) : Nat) : Int) := by rw [IntKind.wrap_i64]; omega
      go_wp2_with fail
      refine (someCell_any w.heap.size w.heap.size n c q a _ hRi (by omega)).mono ?_
      rintro e w4 ⟨s, rfl, hs, p4, hp4, hR4, hg4⟩
      have HQ4 := Lib.hid (HQ.out.read hg4 hgD)
      have HG4 := Lib.hid (grown_tr HGi.out hg4)
      have hD4 : D ≤ w4.heap.size := Nat.le_trans hDi hg4.size
      clear hg4 HQ HGi hRi
      go_wp2_with (at_builtin; refine wpList_append_own _ rfl _ _ 24 rfl D 9 i0 (.string ByteArray.empty) 1 16 Tryd.underlying24 hi hz0 hz1 hz2 rfl (by decide) _ _ _ rfl (World.ownsRow.alloc HQ4.out _) ⟨w4.heap.size, 0, none⟩ 1 1 [.string s] rfl rfl ?ka1 ?ka2 ?ka3 ?ka4 ?ka5 ?_)
      case ka1 => exact cell_one_new _ _ _
      case ka2 => intro u hu; simp at hu; subst hu; rfl
      case ka3 => rw [hll.out]; unfold maxLen; omega
      case ka4 => rw [hll.out]; omega
      case ka5 => simp; omega
      intro v5 w5 hown5 hgrow5 _
      have HQ5 := Lib.hid (OStrs.push1 hown5)
      have hbE : Below D w4 w5 := ((Below.refl _ _).alloc hD4 _).grown hgrow5 (by simp; omega) (fun k hk => (World.ownsRow.lt HQ4.out k hk).1)
      have HG5 := Lib.hid (grown_then HG4.out (hbE.mono (Nat.le_of_eq HD.out)))
      have hR5 := hR4.below (C := D) (by omega) hgD hbE
      have hD5 : D ≤ w5.heap.size := Nat.le_trans hD4 hbE.size
      have HL5 : Hid ((l ++ [s]).length = j + 1) := Lib.hid (by rw [List.length_append, hll.out]; rfl)
      have HF5 := Lib.hid (few_push hfl.out hs)
      clear hown5 hgrow5 hbE
      go_wp2
      go_roundw
      case rel => exact ⟨j + 1, _, p4, by omega, rfl, HL5, HQ5, HF5, by omega, hR5, HG5, hD5⟩
      case measure => simp [intOf]; omega
    · obtain rfl : j = M := by omega
      have hz : ¬ (0 : Int) < ((j - j : Nat) : Int) := by omega
      go_wp2_with fail
      go_ret
      exact ⟨_, l, rfl, own_mono HQ.out hwD, by rw [hll.out]; omega, hfl.out, HB1.out.grown HGi.out HB1.out.size (fun k hk => by cases hk; exact Nat.le_refl _)⟩
end Go.Proofs.YtgfpbnafehpopaaDoor
