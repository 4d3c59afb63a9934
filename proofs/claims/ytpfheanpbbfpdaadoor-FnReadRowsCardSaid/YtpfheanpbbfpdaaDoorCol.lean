/- Contracts: columns of tables (countColumns, cellsBelow, longestOf), ColumnWidths of both sides. -/
import Derived.Test.YtpfheanpbbfpdaaDoorTbV
import Derived.Test.YtpfheanpbbfpdaaDoorInts
namespace Go.Proofs.YtpfheanpbbfpdaaDoor
open Go.RowKit
set_option maxRecDepth 100000
set_option linter.unusedVariables false

namespace pl
def widthsI (ps : Gs) : List Int := (List.range (colsN ps)).map fun k => ((wide (colL ps k) : Nat) : Int)
def colR (ps : Gs) : List Int := if vRows ps = true then widthsI ps else []
theorem widthsI_len (ps : Gs) : (widthsI ps).length = colsN ps := by simp [widthsI]
theorem widthsI_nth {ps : Gs} {k : Nat} (h : k < colsN ps) : nthI (widthsI ps) k = ((wide (colL ps k) : Nat) : Int) := by
  rw [nthI_eq (by rw [widthsI_len]; exact h)]; simp [widthsI]
theorem colR_yes {ps : Gs} (h : vRows ps = true) : colR ps = widthsI ps := by simp [colR, h]
theorem colR_no {ps : Gs} (h : vRows ps = false) : colR ps = [] := by simp [colR, h]
theorem colR_len (ps : Gs) : (colR ps).length ≤ 5 := by
  by_cases h : vRows ps = true
  · rw [colR_yes h, widthsI_len]; exact vRows_cols h
  · rw [colR_no (by simpa using h)]; simp
theorem rows_cut {ps : Gs} (h : vRows ps = true) {k : Nat} (hk : k < colsN ps) : ∀ i, i < ps.length → k < (nthP ps i).length := fun i hi => by rw [(vRows_row h hi).1]; exact hk
end pl

set_option maxHeartbeats 1000000 in
theorem iCountColumns_any (ps : pl.Gs) (v : Value) (w : World) (hr : RPs w v ps) (hl : ps.length ≤ 1048576) :
    Calls Tryd.prog 59 #[v] w fun e w' => e = .returned (.int .i64 (pl.colsN ps : Nat)) ∧ w = w' := by
  obtain ⟨n, hn⟩ : ∃ n, n = ps.length := ⟨_, rfl⟩
  have HN := Lib.hid hn
  have HR := Lib.hid hr
  obtain ⟨a0, cap0, rfl⟩ := hr.slice
  rw [← hn] at hl HR ⊢
  clear hn hr
  by_cases h0 : n = 0
  · have hc : Hid (pl.colsN ps = 0) := Lib.hid (pl.colsN_nil (by rw [← HN.out]; exact h0))
    have he : ((n : Int) == 0) = true := by rw [h0]; rfl
    clear h0
    go_enter Tryd.func59, Tryd.ntmps59
    go_wp2_with fail
    go_ret
    exact ⟨by rw [hc.out]; rfl, rfl⟩
  · have he : ((n : Int) == 0) = false := beq_eq_false_iff_ne.2 (by omega)
    have hpos : 0 < n := by omega
    obtain ⟨b1, o1, u, rfl, _, hc, hu⟩ := HR.out.at HN.out (Below.refl _ _) hpos
    obtain ⟨au, cu, hv⟩ := hu.1.slice
    obtain ⟨m, HM⟩ : ∃ m, Hid ((pl.nthP ps 0).length = m) := ⟨_, Lib.hid rfl⟩
    have HMC : Hid (pl.colsN ps = m) := Lib.hid HM.out
    rw [HM.out] at hv
    subst hv
    rw [Nat.add_zero] at hc
    clear hu h0
    go_enter Tryd.func59, Tryd.ntmps59
    go_wp2_with fail
    go_ret
    exact ⟨by rw [HMC.out]; rfl, rfl⟩

set_option maxHeartbeats 2000000 in
theorem iCellsBelow_at (ps : pl.Gs) (v : Value) (a : Int) (k : Nat) (ha : a = k) (w : World) (hr : RPs w v ps) (hl : ps.length ≤ 1048576) (hk : ∀ i, i < ps.length → k < (pl.nthP ps i).length) (hk2 : k ≤ 1048576) :
    Calls Tryd.prog 102 #[v, .int .i64 a] w fun e w' => ∃ v', e = .returned v' ∧ OStrs w.heap.size w' v' (pl.colL ps k) ∧ Below w.heap.size w w' := by
  subst ha
  obtain ⟨i0, hi, hz0, hz1, hz2⟩ := info_parts infoS
  obtain ⟨n, hn⟩ : ∃ n, n = ps.length := ⟨_, rfl⟩
  have HN := Lib.hid hn
  have HR := Lib.hid hr
  have HK := Lib.hid hk
  have HCL : Hid ((pl.colL ps k).length = n) := Lib.hid ((pl.colL_len ps k).trans hn.symm)
  obtain ⟨a0, cap0, rfl⟩ := hr.slice
  rw [← hn] at hl HR ⊢
  clear hn hr hk
  go_enter Tryd.func102, Tryd.ntmps102
  go_wp2_with (at_make; refine wpList_make_full _ rfl _ _ 23 rfl w.heap.size 9 i0 (.string ByteArray.empty) 1 Tryd.underlying23 hi hz0 hz1 _ _ _ _ n rfl rfl rfl rfl ?b1 ?b2 ?b3 ?_)
  case b1 => rw [hz2]; omega
  case b2 => unfold maxLen; omega
  case b3 => exact Nat.le_refl _
  intro w1 hown hgrow
  have hb0 : Below w.heap.size w w1 := (Below.refl _ _).grown hgrow (Nat.le_refl _) (fun g hg => by cases hg)
  have hown1 : w1.ownsRow w.heap.size 9 1 (.slice (some ⟨w.heap.size, 0, none⟩) n n) n ((List.replicate n ByteArray.empty).map Value.string) := by
    rw [toList_madeCells_one, ← List.map_replicate] at hown; exact hown
  clear hown hgrow
  go_wp2_with fail
  go_loopw [13] (fun iv wr => ∃ (j : Nat) (l' : List ByteArray), j ≤ n ∧ iv = .int .i64 j ∧ Hid (l'.length = n ∧ ∀ i, i < j → nth l' i = nth (pl.colL ps k) i) ∧ wr.ownsRow w.heap.size 9 1 (.slice (some ⟨w.heap.size, 0, none⟩) n n) n (l'.map Value.string) ∧ Below w.heap.size w wr) (fun iv _ => n - (intOf iv).toNat)
  case atStart => exact ⟨0, _, Nat.zero_le _, rfl, Lib.hid ⟨List.length_replicate, fun i h => absurd h (by omega)⟩, hown1, hb0⟩
  case round =>
    obtain ⟨j, l', hj, rfl, hinv, hown, hbel⟩ := hrel
    have HB := Lib.hid hbel
    by_cases hlt : j < n
    · have hjl : Hid (j < ps.length) := Lib.hid (by rw [← HN.out]; exact hlt)
      obtain ⟨b1, o1, u, rfl, hb1, hx, hu⟩ := HR.out.at HN.out hbel hlt
      obtain ⟨au, cu, hv⟩ := hu.1.slice
      have hkm := HK.out j hjl.out
      have HU := Lib.hid hu.1
      obtain ⟨m, HM⟩ : ∃ m, Hid ((pl.nthP ps j).length = m) := ⟨_, Lib.hid rfl⟩
      rw [HM.out] at hv hkm
      subst hv
      obtain ⟨b2, o2, e2, hy⟩ := HU.out.at HM.out.symm (Below.refl _ _) hkm
      subst e2
      obtain ⟨x, HX⟩ : ∃ x, Hid (nth (pl.nthP ps j) k = x) := ⟨_, Lib.hid rfl⟩
      rw [HX.out] at hy
      have hc2 := own_cell hown hinv.out.1 hlt
      have hf2 := World.ownsRow.frozenAt hown j
      obtain ⟨ho3, hg3⟩ := own_store (j := j) hown x
      have HO := Lib.hid ho3
      have hb3 := Lib.hid (HB.out.setCell (p := ⟨w.heap.size, j, none⟩) (Nat.le_refl _) (.string x))
      have hn2 : Hid ((l'.set j x).length = n ∧ ∀ i, i < j + 1 → nth (l'.set j x) i = nth (pl.colL ps k) i) := Lib.hid ⟨by rw [List.length_set]; exact hinv.out.1, fun i hi => by
        by_cases e : i = j
        · subst e; rw [nth_set_same (by rw [hinv.out.1]; exact hlt), pl.colL_nth hjl.out, HX.out]
        · rw [nth_set_other (by rw [hinv.out.1]; omega) e]; exact hinv.out.2 i (by omega)⟩
      clear hu hown ho3 hg3 hinv hbel
      go_wp2_with fail
      go_roundw
      case rel => exact ⟨j + 1, _, by omega, by go_num, hn2, HO.out, hb3.out⟩
      case measure => simp [intOf]; omega
    · obtain rfl : j = n := by omega
      have he : Hid (l' = pl.colL ps k) := Lib.hid (nth_ext (by rw [hinv.out.1, HCL.out]) (fun i hi => hinv.out.2 i (by rw [← hinv.out.1]; exact hi)))
      clear hbel
      go_wp2_with fail
      go_ret
      exact ⟨_, rfl, by unfold OStrs; rw [HCL.out, ← he.out]; exact hown, HB.out⟩

set_option maxHeartbeats 1000000 in
theorem iLongestOf_any (l : List ByteArray) (v : Value) (w : World) (hr : RStrs w v l) (hlen : l.length ≤ 1048576) (hs : ∀ i, i < l.length → (nth l i).size ≤ 1048576) :
    Calls Tryd.prog 103 #[v] w fun e w' => e = .returned (.int .i64 ((pl.wide l : Nat) : Int)) ∧ w = w' := by
  obtain ⟨n, hn⟩ : ∃ n, n = l.length := ⟨_, rfl⟩
  have HN := Lib.hid hn
  have HS := Lib.hid hs
  have hrr := Lib.hid hr
  obtain ⟨a0, cap0, rfl⟩ := hr.slice
  rw [← hn] at hrr hlen ⊢
  clear hn hr hs
  go_enter Tryd.func103, Tryd.ntmps103
  go_wp2_with fail
  go_loop [3, 8] (fun ov iv => ∃ (k o : Nat), k ≤ n ∧ iv = .int .i64 k ∧ ov = .int .i64 o ∧ o ≤ 1048576 ∧ Hid (o = pl.wideTo l k)) (fun _ iv => n - (intOf iv).toNat)
  case atStart => exact ⟨0, 0, Nat.zero_le _, rfl, rfl, by omega, Lib.hid rfl⟩
  case round =>
    obtain ⟨k, o, hk, rfl, rfl, ho1, ho⟩ := hrel
    by_cases hlt : k < n
    · obtain ⟨b1, o1, rfl, hx⟩ := hrr.out.at HN.out (Below.refl _ _) hlt
      obtain ⟨x, HX⟩ : ∃ x, Hid (nth l k = x) := ⟨_, Lib.hid rfl⟩
      have hxs := HS.out k (by rw [← HN.out]; exact hlt)
      rw [HX.out] at hx hxs
      have hn2 : Hid (max o x.size = pl.wideTo l (k + 1)) := Lib.hid (by rw [pl.wideTo_succ, ← ho.out, HX.out])
      clear ho
      go_wp2_with fail
      go_round
      case rel => exact ⟨k + 1, max o x.size, by omega, by go_num, by first | rfl | go_num | (congr 1; omega), by omega, hn2⟩
      case measure => simp [intOf]; omega
    · obtain rfl : k = n := by omega
      have he : Hid (o = pl.wide l) := Lib.hid (by rw [ho.out, HN.out]; rfl)
      clear ho
      go_wp2_with fail
      go_ret
      exact ⟨by rw [← he.out]; rfl, rfl⟩

end Go.Proofs.YtpfheanpbbfpdaaDoor
