/- Contracts: the model's ColumnWidths. -/
import Derived.Test.YtpfheanpbbfpdaaDoorCol
namespace Go.Proofs.YtpfheanpbbfpdaaDoor
open Go.RowKit
set_option maxRecDepth 100000
set_option linter.unusedVariables false

theorem ints_push {B : Nat} {w' : World} {v' : Value} {l : List Int} {x : Int} (h : w'.ownsRow B 3 1 v' (l.length + 1) (l.map (Value.int .i64) ++ [.int .i64 x])) : OInts B w' v' (l ++ [x]).length (l ++ [x]) := by
  unfold OInts
  simpa using h

set_option maxHeartbeats 4000000 in
theorem scolumnWidths_ok (ps : pl.Gs) (v : Value) (w : World) (hr : RPs w v ps) (hv : pl.vRows ps = true) :
    Calls Tryd.prog 96 #[v] w fun e w' => ∃ v', e = .returned v' ∧ OInts w.heap.size w' v' (pl.widthsI ps).length (pl.widthsI ps) ∧ Below w.heap.size w w' := by
  obtain ⟨i0, hi, hz0, hz1, hz2⟩ := info_parts infoI
  have HV := Lib.hid hv
  have HR := Lib.hid hr
  have hl6 : ps.length ≤ 6 := (pl.vRows_parts hv).1
  have hm5 := pl.vRows_cols hv
  obtain ⟨n, hn⟩ : ∃ n, n = ps.length := ⟨_, rfl⟩
  have HN := Lib.hid hn
  obtain ⟨a0, cap0, rfl⟩ := hr.slice
  rw [← hn] at hl6 HR ⊢
  clear hn hr hv
  have ho0 : OInts w.heap.size (w.alloc (.cells #[] 3)) (.slice (some ⟨w.heap.size, 0, none⟩) 0 0) 0 [] := World.ownsRow_made _ _ _ (Nat.le_refl _) (by unfold maxLen; omega) rfl
  have HO0 := Lib.hid ho0
  have HB0 : Hid (Below w.heap.size w (w.alloc (.cells #[] 3))) := Lib.hid ((Below.refl _ _).alloc (Nat.le_refl _) _)
  clear ho0
  by_cases h0 : n = 0
  · have hc : Hid (pl.widthsI ps = []) := Lib.hid (List.length_eq_zero_iff.1 (by rw [pl.widthsI_len, pl.colsN_nil (by rw [← HN.out]; exact h0)]))
    have he : ((n : Int) == 0) = true := by rw [h0]; rfl
    clear h0
    go_enter Tryd.func96, Tryd.ntmps96
    go_wp2_with fail
    go_ret
    exact ⟨_, rfl, by rw [hc.out]; exact HO0.out, HB0.out⟩
  · have he : ((n : Int) == 0) = false := beq_eq_false_iff_ne.2 (by omega)
    have hpos : 0 < n := by omega
    obtain ⟨b1, o1, u, rfl, hb1, hc, hu⟩ := HR.out.at HN.out (Below.refl _ _) hpos
    obtain ⟨au, cu, hvu⟩ := hu.1.slice
    obtain ⟨m, HM⟩ : ∃ m, Hid (pl.colsN ps = m) := ⟨_, Lib.hid rfl⟩
    have HM' : (pl.nthP ps 0).length = m := HM.out
    rw [HM'] at hvu
    rw [HM.out] at hm5
    subst hvu
    rw [Nat.add_zero] at hc
    have HC := Lib.hid hc
    have HB1 := Lib.hid hb1
    clear hu h0 hc hb1 HM'
    go_enter Tryd.func96, Tryd.ntmps96
    go_wp2_with fail
    go_loopw [3, 4] (fun ov iv wr => ∃ (k : Nat) (a : Option Addr) (cp : Nat) (l : List Int), k ≤ m ∧ iv = .int .i64 k ∧ ov = .slice a k cp ∧ Hid (l.length = k ∧ ∀ i, i < k → nthI l i = nthI (pl.widthsI ps) i) ∧ Hid (OInts w.heap.size wr (.slice a k cp) k l) ∧ Hid (Below w.heap.size w wr)) (fun _ iv _ => m - (intOf iv).toNat)
    case atStart => exact ⟨0, _, 0, [], Nat.zero_le _, rfl, rfl, Lib.hid ⟨rfl, fun i h => absurd h (by omega)⟩, HO0, HB0⟩
    case round =>
      obtain ⟨k, a, cp, l, hk, rfl, rfl, hinv, hown, HB⟩ := hrel
      have c0 := (HB.out.cell (p := ⟨b1, o1, none⟩) HB1.out).trans HC.out
      by_cases hlt : k < m
      · have hkc : Hid (k < pl.colsN ps) := Lib.hid (by rw [HM.out]; exact hlt)
        have hwk := pl.wide_col HV.out hkc.out
        go_wp2_with fail
        go_loop [5, 6] (fun wv jv => ∃ (j W : Nat), j ≤ n ∧ jv = .int .i64 j ∧ wv = .int .i64 W ∧ W ≤ 16 ∧ Hid (W = pl.wideTo (pl.colL ps k) j)) (fun _ jv => n - (intOf jv).toNat)
        case atStart => exact ⟨0, 0, Nat.zero_le _, rfl, rfl, by omega, Lib.hid rfl⟩
        case round =>
          obtain ⟨j, W, hj, rfl, rfl, hW16, hW⟩ := hrel
          by_cases hjn : j < n
          · have hjl : Hid (j < ps.length) := Lib.hid (by rw [← HN.out]; exact hjn)
            obtain ⟨b3, o3, u3, e3, _, hx3, hu3⟩ := HR.out.at HN.out HB.out hjn
            simp only [Option.some.injEq, Addr.mk.injEq, and_true] at e3
            obtain ⟨rfl, rfl⟩ := e3
            obtain ⟨au3, cu3, hv3⟩ := hu3.1.slice
            have hrow := pl.vRows_row HV.out hjl.out
            have hr1 : (pl.nthP ps j).length = m := hrow.1.trans HM.out
            have HR1 := Lib.hid hr1
            have HU3 := Lib.hid hu3.1
            rw [hr1] at hv3
            subst hv3
            obtain ⟨b4, o4, e4, hy⟩ := HU3.out.at HR1.out.symm (Below.refl _ _) hlt
            subst e4
            obtain ⟨x, HX⟩ : ∃ x, Hid (nth (pl.nthP ps j) k = x) := ⟨_, Lib.hid rfl⟩
            have hx16 := pl.colL_size HV.out hkc.out j hjl.out
            rw [HX.out] at hy hx16
            have hn2 : Hid (max W x.size = pl.wideTo (pl.colL ps k) (j + 1)) := Lib.hid (by rw [pl.wideTo_succ, ← hW.out, pl.colL_nth hjl.out, HX.out])
            clear hu3 hrow hr1 hW
            go_wp2_with fail
            go_round
            case rel => exact ⟨j + 1, max W x.size, by omega, by go_num, by first | rfl | go_num | (congr 1; omega), by omega, hn2⟩
            case measure => simp [intOf]; omega
          · obtain rfl : j = n := by omega
            have hWw : Hid (pl.wide (pl.colL ps k) = W) := Lib.hid (by rw [hW.out]; unfold pl.wide; rw [pl.colL_len, HN.out])
            have HNW := Lib.hid (pl.widthsI_nth hkc.out)
            rw [hWw.out] at HNW
            have hS := HB.out.size
            have hll : Hid (l.length = k) := Lib.hid hinv.out.1
            clear hW
            go_wp2_with (at_builtin; refine wpList_append_own _ rfl _ _ 109 rfl w.heap.size 3 i0 (.int .i64 0) 1 8 Tryd.underlying109 hi hz0 hz1 hz2 rfl (by decide) _ _ _ rfl (World.ownsRow.alloc hown.out _) ⟨wr.heap.size, 0, none⟩ 1 1 [.int .i64 (W : Int)] rfl rfl ?ka1 ?ka2 ?ka3 ?ka4 ?ka5 ?_)
            try (case ka1 => exact cell_one_new _ _ _)
            case ka2 => first | rfl | (intro u hu; simp at hu; subst hu; rfl)
            case ka3 => unfold maxLen; omega
            case ka4 => omega
            case ka5 => first | omega | (simp; omega)
            intro v4 w4 hown4 hgrow4 _
            have HO4 : Hid (OInts w.heap.size w4 v4 (l ++ [(W : Int)]).length (l ++ [(W : Int)])) := Lib.hid (ints_push (by rw [hll.out]; exact hown4))
            have HB4 := Lib.hid ((HB.out.alloc hS _).grown hgrow4 (by simp; omega) (fun b hb => (World.ownsRow.lt hown.out b hb).1))
            have hl4 : (l ++ [(W : Int)]).length = k + 1 := by rw [List.length_append, hll.out]; rfl
            obtain ⟨a4, c4, hv4⟩ := (ints_reads HO4.out rfl).slice
            rw [hl4] at hv4
            subst hv4
            rw [hl4] at HO4
            have hn2 : Hid ((l ++ [(W : Int)]).length = k + 1 ∧ ∀ i, i < k + 1 → nthI (l ++ [(W : Int)]) i = nthI (pl.widthsI ps) i) := Lib.hid ⟨hl4, fun i hi => by
              by_cases e : i = k
              · subst e
                rw [nthI_eq (by omega), HNW.out]
                simp [hll.out]
              · rw [← hinv.out.2 i (by omega), nthI_eq (by omega), nthI_eq (by rw [hll.out]; omega), List.getElem_append_left (by rw [hll.out]; omega)]⟩
            clear hown4 hgrow4 hl4
            go_wp2
            go_roundw
            case rel => exact ⟨k + 1, a4, c4, _, by omega, by go_num, rfl, hn2, HO4, HB4⟩
            case measure => simp [intOf]; omega
      · obtain rfl : k = m := by omega
        have hwl : (pl.widthsI ps).length = k := (pl.widthsI_len ps).trans HM.out
        have he : Hid (l = pl.widthsI ps) := Lib.hid (nthI_ext (by rw [hinv.out.1, hwl]) (fun i hi => hinv.out.2 i (by rw [← hinv.out.1]; exact hi)))
        have HWL := Lib.hid hwl
        clear hwl
        go_wp2_with fail
        go_ret
        exact ⟨_, rfl, by rw [HWL.out, ← he.out]; exact hown.out, HB.out⟩

end Go.Proofs.YtpfheanpbbfpdaaDoor
