/- Contract: across, at columns set by strings. -/
import Derived.Test.YtpfheanpbbfpdaaDoorColsS
import Derived.Test.YtpfheanpbbfpdaaDoorAcr
import Derived.Laws.CopyOwn
namespace Go.Proofs.YtpfheanpbbfpdaaDoor
open Go.RowKit
set_option maxRecDepth 100000
set_option linter.unusedVariables false

set_option maxHeartbeats 4000000 in
theorem acrossS_any (D B g m : Nat) (cs : List Pr) (f : Nat → List ByteArray) (hs : List ByteArray) (i : Nat) (a : Int) (ha : a = i) (w : World) (ho : OPr 65 B w (.slice (some ⟨g, 0, none⟩) m m) m cs) (hc : Cols D w cs m m f (fun i => Value.string (nth hs i))) (hm : m ≤ 5) (hi : i ≤ 1000) (hf : ∀ k, k < m → (f k).length ≤ 1048576) :
    Calls Tryd.prog 63 #[.slice (some ⟨g, 0, none⟩) m m, .int .i64 a] w fun e w' => e = .returned (.agg (acrL f i m).toArray) ∧ Below w.heap.size w w' := by
  subst ha
  have hinfo : (Tryd.prog.info? 68).map (·.size) = some 5 := by kernel_rfl
  have HINF := Lib.hid hinfo
  have HO := Lib.hid ho
  have HC := Lib.hid hc
  have HF := Lib.hid hf
  clear ho hc hf hinfo
  have hA0 := heap_alloc_new w (.cells #[.string ⟨#[]⟩, .string ⟨#[]⟩, .string ⟨#[]⟩, .string ⟨#[]⟩, .string ⟨#[]⟩] 68)
  obtain ⟨w0, HW0⟩ : ∃ u, Hid (w.alloc (.cells #[.string ⟨#[]⟩, .string ⟨#[]⟩, .string ⟨#[]⟩, .string ⟨#[]⟩, .string ⟨#[]⟩] 68) = u) := ⟨_, Lib.hid rfl⟩
  have hs0 : w0.heap.size = w.heap.size + 1 := by rw [← HW0.out]; simp
  have hb0 : Below w.heap.size w w0 := by rw [← HW0.out]; exact (Below.refl _ _).alloc (Nat.le_refl _) _
  rw [HW0.out] at hA0
  have hA1 := heap_alloc_new w0 (.cells #[.string ⟨#[]⟩, .string ⟨#[]⟩, .string ⟨#[]⟩, .string ⟨#[]⟩, .string ⟨#[]⟩] 68)
  have hb1 : Below w0.heap.size w0 (w0.alloc (.cells #[.string ⟨#[]⟩, .string ⟨#[]⟩, .string ⟨#[]⟩, .string ⟨#[]⟩, .string ⟨#[]⟩] 68)) := (Below.refl _ _).alloc (Nat.le_refl _) _
  obtain ⟨w1, HW1⟩ : ∃ u, Hid (w0.alloc (.cells #[.string ⟨#[]⟩, .string ⟨#[]⟩, .string ⟨#[]⟩, .string ⟨#[]⟩, .string ⟨#[]⟩] 68) = u) := ⟨_, Lib.hid rfl⟩
  have hs1 : w1.heap.size = w0.heap.size + 1 := by rw [← HW1.out]; simp
  rw [HW1.out] at hA1 hb1
  obtain ⟨G, HG⟩ : ∃ G, Hid (w0.heap.size = G) := ⟨_, Lib.hid rfl⟩
  have hG1 : G < w1.heap.size := by have := HG.out; omega
  have hAG : w.heap.size < G := by have := HG.out; omega
  have HE0 : Hid (w.heap.size + 1 = G) := Lib.hid (by rw [← hs0]; exact HG.out)
  have HGB : Hid (w1.heap[G]? = some (.cells (acrL f i 0).toArray 68 (0, 0))) := Lib.hid (by rw [← HG.out]; exact hA1)
  have HAB : Hid (w1.heap[w.heap.size]? = some (.cells (acrL f i 0).toArray 68 (0, 0))) := Lib.hid ((hb1.block _ (by omega)).trans hA0)
  have HB1 := Lib.hid (hb0.trans (hb1.mono hb0.size))
  clear hA0 hA1 hb0 hb1 hs0 hs1
  go_enter Tryd.func63, Tryd.ntmps63
  go_wp2_with fail
  rw [HW0.out, HW1.out, HE0.out]
  go_loopw [10] (fun jv wr => ∃ k : Nat, k ≤ m ∧ jv = .int .i64 k ∧ Hid (wr.heap[G]? = some (.cells (acrL f i k).toArray 68 (0, 0))) ∧ Hid (wr.heap[w.heap.size]? = some (.cells (acrL f i 0).toArray 68 (0, 0))) ∧ Hid (Below w.heap.size w wr) ∧ G < wr.heap.size) (fun jv _ => m - (intOf jv).toNat)
  case atStart => exact ⟨0, Nat.zero_le _, rfl, HGB, HAB, HB1, hG1⟩
  case round =>
    obtain ⟨k, hk, rfl, HGR, HAR, HB, hGr⟩ := hrel
    by_cases hlt : k < m
    · obtain ⟨a1, c1, p0, p1, pf, hrd, _⟩ := cols_readS (pr_below HO.out HB.out) (HC.out.below HB.out) hlt (Nat.le_refl _)
      have HRD := Lib.hid hrd
      have hfl := HF.out k hlt
      obtain ⟨x, HX⟩ : ∃ x, Hid (nth hs k = x) := ⟨_, Lib.hid rfl⟩
      obtain ⟨L, HL⟩ : ∃ L, Hid (f k = L) := ⟨_, Lib.hid rfl⟩
      rw [HX.out] at p1
      rw [HL.out] at p0 HRD hfl
      obtain ⟨N, HN⟩ : ∃ N, Hid (L.length = N) := ⟨_, Lib.hid rfl⟩
      rw [HN.out] at p0 HRD
      have hk5 : k < 5 := by omega
      clear hrd
      go_wp2_with fail
      refine (iLineAt_below L _ i i rfl _ (HRD.out.below (Nat.le_refl _) ((Below.refl _ _).alloc (Nat.le_refl _) _)) hfl (by omega)).mono ?_
      rintro e w2 ⟨rfl, hb2⟩
      have hbw : Below wr.heap.size wr w2 := ((Below.refl _ _).alloc (Nat.le_refl _) _).trans (hb2.mono (by simp))
      have hg2 := (hbw.block G hGr).trans HGR.out
      have ha2 := (hbw.block w.heap.size (by omega)).trans HAR.out
      obtain ⟨y, HY⟩ : ∃ y, Hid (nth L i = y) := ⟨_, Lib.hid rfl⟩
      rw [HY.out]
      have q0 : w2.cell? ⟨G, k, none⟩ = some (.string (acrV f i k k)) := by rw [cell_of_row w2 G k _ _ _ hg2, List.getElem?_toArray]; exact acrL_get hk5
      have q1 : w2.frozen? ⟨G, k, none⟩ = false := frozen_of_row w2 G k _ _ hg2
      have hg3 := heap_setCell_same w2 G k _ _ (.string y) hg2
      rw [List.setIfInBounds_toArray, acrL_set hk5 (by rw [HL.out]; exact HY.out)] at hg3
      have HG3 := Lib.hid hg3
      have HA3 := Lib.hid ((heap_setCell_other w2 ⟨G, k, none⟩ w.heap.size (.string y) (by show w.heap.size ≠ G; omega)).trans ha2)
      have HB3 := Lib.hid (HB.out.trans ((hbw.mono HB.out.size).setCell (p := ⟨G, k, none⟩) (by show w.heap.size ≤ G; omega) (.string y)))
      have hG3 : G < (w2.setCell ⟨G, k, none⟩ (.string y)).heap.size := by have := HB3.out.size; have := hbw.size; simp; omega
      clear hb2 hbw hg2 ha2 hg3
      go_wp2_with fail
      go_roundw
      case rel => exact ⟨k + 1, by omega, by go_num, HG3, HA3, HB3, hG3⟩
      case measure => simp [intOf]; omega
    · obtain rfl : k = m := by omega
      have HAE := Lib.hid (setRow_heap wr w.heap.size _ (acrL f i k).toArray _ _ HAR.out)
      have HBE : Hid (Below w.heap.size w (wr.setRow w.heap.size (acrL f i k).toArray)) := Lib.hid (below_setRow HB.out (Nat.le_refl _) _)
      go_wp2_with (first | (refine wpList_load_row rfl _ _ rfl G rfl 68 (acrL f i k).toArray (0, 0) _ HGR.out Tryd.underlying68 rfl HINF.out ?_) | (refine wpList_store_row rfl _ _ _ rfl w.heap.size (acrL f i k).toArray rfl rfl 68 _ HAR.out HINF.out rfl (acrL_one f i k) ?_))
      refine bodyPost_ret (v := .agg (acrL f i k).toArray) ?_ rfl ⟨rfl, HBE.out⟩
      exact results_cell_row rfl _ _ w.heap.size _ _ _ _ rfl HAE.out Tryd.underlying68 rfl HINF.out
end Go.Proofs.YtpfheanpbbfpdaaDoor
