/- Contracts: columnsOf, across, at columns set by strings. -/
import Derived.Test.YtpfheanpbbfpdaaDoorCol
import Derived.Test.YtpfheanpbbfpdaaDoorPairs
import Derived.Deep.RegionWith
namespace Go.Proofs.YtpfheanpbbfpdaaDoor
open Go.RowKit
set_option maxRecDepth 100000
set_option linter.unusedVariables false

theorem infoColS : (Tryd.prog.info? 65).map (fun i => (i.zero, i.size, i.bytes)) = some (some (.agg #[.slice none 0 0, .string ByteArray.empty]), 2, 40) := by kernel_rfl

set_option maxHeartbeats 4000000 in
theorem columnsOfS_any (ps : pl.Gs) (v u : Value) (hs : List ByteArray) (w : World) (hr : RPs w v ps) (hu : RStrs w u hs) (hl : ps.length ≤ 1048576) (hm : hs.length ≤ 5) (hk : ∀ k, k < hs.length → ∀ i, i < ps.length → k < (pl.nthP ps i).length) :
    Calls Tryd.prog 60 #[v, u] w fun e w' => ∃ D cs, e = .returned (.slice (some ⟨w.heap.size, 0, none⟩) hs.length hs.length) ∧ w.heap.size < D ∧ D ≤ w'.heap.size ∧ OPr 65 w.heap.size w' (.slice (some ⟨w.heap.size, 0, none⟩) hs.length hs.length) hs.length cs ∧ Cols D w' cs hs.length hs.length (pl.colL ps) (fun i => Value.string (nth hs i)) ∧ Below w.heap.size w w' := by
  obtain ⟨i0, hi, hz0, hz1, hz2⟩ := info_parts infoColS
  obtain ⟨m, HM⟩ : ∃ m, Hid (m = hs.length) := ⟨_, Lib.hid rfl⟩
  have HR := Lib.hid hr
  have HU := Lib.hid hu
  have HK := Lib.hid hk
  obtain ⟨a1, c1, rfl⟩ := hu.slice
  rw [← HM.out] at hm HU ⊢
  clear hr hu hk
  go_enter Tryd.func60, Tryd.ntmps60
  go_wp2_with (at_make; refine wpList_make_full _ rfl _ _ 62 rfl w.heap.size 65 i0 (.agg #[.slice none 0 0, .string ByteArray.empty]) 2 Tryd.underlying62 hi hz0 hz1 _ _ _ _ m rfl rfl rfl rfl ?b1 ?b2 ?b3 ?_)
  case b1 => rw [hz2]; omega
  case b2 => unfold maxLen; omega
  case b3 => exact Nat.le_refl _
  intro w1 hown hgrow
  have hb0 : Below w.heap.size w w1 := (Below.refl _ _).grown hgrow (Nat.le_refl _) (fun g hg => by cases hg)
  have HO0 : Hid (OPr 65 w.heap.size w1 (.slice (some ⟨w.heap.size, 0, none⟩) m m) m (List.replicate m (.slice none 0 0, .string ByteArray.empty))) := Lib.hid (by
    show w1.ownsRow _ _ _ _ _ _
    rw [← made_pairs]; exact hown)
  have HB0 := Lib.hid hb0
  have hD : w.heap.size < w1.heap.size := (World.ownsRow.lt HO0.out w.heap.size rfl).2
  obtain ⟨D, HD⟩ : ∃ D, Hid (w1.heap.size = D) := ⟨_, Lib.hid rfl⟩
  rw [HD.out] at hD
  clear hown hgrow hb0
  go_wp2_with fail
  go_loopw [12] (fun iv wr => ∃ (k : Nat) (cs : List Pr), k ≤ m ∧ iv = .int .i64 k ∧ Hid (OPr 65 w.heap.size wr (.slice (some ⟨w.heap.size, 0, none⟩) m m) m cs) ∧ Hid (Cols D wr cs m k (pl.colL ps) (fun i => Value.string (nth hs i))) ∧ Hid (Below w.heap.size w wr) ∧ D ≤ wr.heap.size) (fun iv _ => m - (intOf iv).toNat)
  case atStart => exact ⟨0, _, Nat.zero_le _, rfl, HO0, Lib.hid ⟨List.length_replicate, fun i h => absurd h (by omega), fun i h => absurd h (by omega)⟩, HB0, by rw [HD.out]; exact Nat.le_refl _⟩
  case round =>
    obtain ⟨k, cs, hk, rfl, HO, HC, HB, hDr⟩ := hrel
    by_cases hlt : k < m
    · obtain ⟨b2, o2, rfl, hby⟩ := HU.out.at HM.out HB.out hlt
      have hb2 : b2 < w.heap.size := by obtain ⟨b9, o9, e9, h9⟩ := HU.out.at HM.out (Below.refl _ _) hlt; cases e9; exact World.block_lt_of_cell? w _ h9
      obtain ⟨x, HX⟩ : ∃ x, Hid (nth hs k = x) := ⟨_, Lib.hid rfl⟩
      rw [HX.out] at hby
      have HBY := Lib.hid hby
      have hb2r : b2 < wr.heap.size := by have := HB.out.size; omega
      have HR3 := Lib.hid (HR.out.below (Nat.le_refl _) HB.out)
      have HKK := Lib.hid (HK.out k (by rw [← HM.out]; exact hlt))
      go_wp2_with fail
      have hgw : w.heap.size < wr.heap.size := by omega
      obtain ⟨M, HMM⟩ : ∃ M, Hid ((pl.colL ps k).length = M) := ⟨_, Lib.hid rfl⟩
      go_region_with (go_at_call 102; refine (iCellsBelow_at ps _ _ k (by first | rfl | go_num) _ (by first | exact HR3.out | exact HR3.out.below (Nat.le_refl _) (Below.refl _ _).drew) hl HKK.out (by omega)).mono ?_; rintro e w2 ⟨q, rfl, hoq, hbq⟩; have hby2 : w2.cell? ⟨b2, o2 + k, none⟩ = some (Value.string x) := (hbq.cell (p := ⟨b2, o2 + k, none⟩) (by first | exact hb2r | simpa using hb2r)).trans (by first | exact HBY.out | simpa using HBY.out); have HO2 := Lib.hid (pr_keep HO.out (w' := w2) (fun b hb => by have h1 := (World.ownsRow.lt HO.out b hb).2; exact (hbq.block b (by first | exact h1 | simpa using h1)).trans (by first | rfl | simp))); obtain ⟨pc0, pc1, pf0, pf1⟩ := pr_cells HO2.out hlt; obtain ⟨ps0, pg0, pc2, pf2⟩ := pr_store HO2.out hlt q (Value.string x); obtain ⟨aq, cq, hq⟩ := hoq.reads.slice; rw [HMM.out] at hq; have HQ := Lib.hid hoq; have HBQ := Lib.hid hbq; have HP0 := Lib.hid ps0; have HG0 := Lib.hid pg0; clear hoq hbq ps0 pg0; subst hq)
      all_goals
        have hbw : Below wr.heap.size wr w2 := by first | exact HBQ.out | exact (Below.refl _ _).drew.trans HBQ.out
        have HC2 := Lib.hid ((HC.out.below hbw).touch HG0.out hD)
        have HQ2 := Lib.hid (ostrs_touch (HQ.out.mono (B' := D) (by first | exact hDr | simpa using hDr)) HG0.out hD)
        have HC3 := Lib.hid (HC2.out.push hlt HQ2.out (x := Value.string x) (by rw [HX.out]))
        have HB3 := Lib.hid (HB.out.trans ((hbw.mono HB.out.size).trans (below_of_grown HG0.out (Nat.le_trans HB.out.size hbw.size) (fun g hg => by cases hg; exact Nat.le_refl _))))
        have hD3 : D ≤ ((w2.setCell ⟨w.heap.size, k * 2, none⟩ (.slice aq M cq)).setCell ⟨w.heap.size, k * 2 + 1, none⟩ (Value.string x)).heap.size := by have h1 := hbw.size; have h2 := HG0.out.size; omega
        clear pc0 pc1 pf0 pf1 pc2 pf2 hby hby2 hbw
        go_wp2_with fail
        go_roundw
        case rel => exact ⟨k + 1, _, by omega, by go_num, HP0, HC3, HB3, hD3⟩
        case measure => simp [intOf]; omega
    · obtain rfl : k = m := by omega
      have HE : Hid (∃ D cs, w.heap.size < D ∧ D ≤ wr.heap.size ∧ OPr 65 w.heap.size wr (.slice (some ⟨w.heap.size, 0, none⟩) k k) k cs ∧ Cols D wr cs k k (pl.colL ps) (fun i => Value.string (nth hs i)) ∧ Below w.heap.size w wr) := Lib.hid ⟨D, cs, hD, hDr, HO.out, HC.out, HB.out⟩
      go_wp2_with fail
      go_ret
      obtain ⟨D, cs, h1, h2, h3, h4, h5⟩ := HE.out
      exact ⟨D, cs, rfl, h1, h2, h3, h4, h5⟩

theorem cols_readS {D B g m n i : Nat} {w : World} {cs : List Pr} {f : Nat → List ByteArray} {b : Nat → Value} (ho : OPr 65 B w (.slice (some ⟨g, 0, none⟩) m m) m cs) (hc : Cols D w cs m n f b) (hi : i < n) (hn : n ≤ m) :
    ∃ a c, w.cell? ⟨g, i * 2, none⟩ = some (.slice a (f i).length c) ∧ w.cell? ⟨g, i * 2 + 1, none⟩ = some (b i) ∧ w.frozen? ⟨g, i * 2, none⟩ = false ∧ RStrs w (.slice a (f i).length c) (f i) ∧ OStrs D w (.slice a (f i).length c) (f i) := by
  obtain ⟨h0, h1, h2, h3⟩ := pr_cells ho (show i < m by omega)
  obtain ⟨a, c, hv⟩ := (hc.each i hi).reads.slice
  have hr := (hc.each i hi).reads
  have ho2 := hc.each i hi
  rw [hv] at h0 hr ho2
  rw [hc.snd i hi] at h1
  exact ⟨a, c, h0, h1, h2, hr, ho2⟩
end Go.Proofs.YtpfheanpbbfpdaaDoor
