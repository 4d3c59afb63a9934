/- Contract: the model's readCells. -/
import Derived.Test.YtpfheanpbbfpdaaDoorPkE
import Derived.Test.YtpfheanpbbfpdaaDoorParts
import Derived.Test.YtpfheanpbbfpdaaDoorEq
namespace Go.Proofs.YtpfheanpbbfpdaaDoor
open Go.RowKit
set_option maxRecDepth 100000
set_option linter.unusedVariables false

theorem pl.sizes_push {M : Nat} {l : List ByteArray} {x : ByteArray} (h : ∀ i, i < l.length → (nth l i).size ≤ M) (hx : x.size ≤ M) : ∀ i, i < (l ++ [x]).length → (nth (l ++ [x]) i).size ≤ M := by
  intro i hi
  rw [List.length_append, List.length_singleton] at hi
  rw [nth_eq (by rw [List.length_append, List.length_singleton]; exact hi)]
  rcases Nat.lt_or_ge i l.length with h1 | h1
  · rw [List.getElem_append_left h1]; have := h i h1; rw [nth_eq h1] at this; exact this
  · rw [List.getElem_append_right h1]; simpa using hx

def RdCells (s : ByteArray) (w : World) (e : Ending) (w' : World) : Prop :=
  ∃ v out ok, e = .returned (.tuple #[v, .bool ok]) ∧ OStrs w.heap.size w' v out ∧ out.length ≤ 181 ∧ (∀ i, i < out.length → (nth out i).size ≤ 400) ∧ (∀ l, pl.vCells l = true → pl.quoR l = s → out = l ∧ ok = true) ∧ Below w.heap.size w w'
set_option maxHeartbeats 4000000 in
theorem sreadCells_any (s : ByteArray) (w : World) (hs : s.size ≤ 180) :
    Calls Tryd.prog 69 #[.string s] w (RdCells s w) := by
  obtain ⟨i0, hi, hz0, hz1, hz2⟩ := info_parts infoS
  go_enter Tryd.func69, Tryd.ntmps69
  go_wp2_with fail
  go_loopw [4, 5] (fun ov iv wr => ∃ (i : Nat) (out : List ByteArray), i ≤ s.size + 1 ∧ iv = .int .i64 i ∧ Hid (OStrs w.heap.size wr ov out) ∧ out.length ≤ i ∧ Hid (∀ j, j < out.length → (nth out j).size ≤ 400) ∧ Hid (pl.Al s i out) ∧ Hid (Below w.heap.size w wr)) (fun _ iv _ => s.size + 1 - (intOf iv).toNat)
  case atStart => exact ⟨0, [], Nat.zero_le _, rfl, Lib.hid (World.ownsRow_made _ _ _ (Nat.le_refl _) (by unfold maxLen; omega) rfl), Nat.le_refl _, Lib.hid (fun j h => by simp at h), Lib.hid (pl.Al.start s), Lib.hid ((Below.refl _ _).alloc (Nat.le_refl _) _)⟩
  case round =>
    obtain ⟨i, out, hi1, rfl, HO, hol, HSZ, HAI, HB⟩ := hrel
    by_cases hle : i ≤ s.size
    · by_cases hin : i < s.size
      · by_cases e0 : s[i] = 34
        · have g0 : (s[i].toNat : Int) = 34 := by rw [e0]; rfl
          have HQ0 := Lib.hid (HAI.out.quoted hin e0)
          clear e0 HAI
          go_wp2_with fail
          go_loop [5, 6] (fun iv cv => ∃ (k : Nat) (cell : List UInt8), i < k ∧ k ≤ s.size ∧ iv = .int .i64 k ∧ cv = .string (pl.bs cell) ∧ cell.length + i ≤ k ∧ Hid (pl.At s out (pl.FQ s k cell))) (fun iv _ => s.size - (intOf iv).toNat)
          case atStart => exact ⟨i + 1, [], by omega, hin, by go_num, rfl, by simp, HQ0⟩
          case round =>
            obtain ⟨k, cell, hik, hkn, rfl, rfl, hcl, HAT⟩ := hrel
            have hcz : (pl.bs cell).size ≤ 400 := by show cell.length ≤ 400; omega
            have hw1 : IntKind.i64.wrap ((k : Int) + 1) = (k : Int) + 1 := by rw [IntKind.wrap_i64]; omega
            by_cases hk : k < s.size
            · by_cases e : s[k] = 34
              · have g1 : (s[k].toNat : Int) = 34 := by rw [e]; rfl
                by_cases hk2 : k + 1 < s.size
                · by_cases e2 : s[k + 1] = 34
                  · have g2 : (s[k + 1].toNat : Int) = 34 := by rw [e2]; rfl
                    have HN := Lib.hid (HAT.out.mono (fun X t ht h => h.pair ht hk e hk2 e2))
                    have hex : (s.extract (k + 1) (k + 1 + 1)).size ≤ 1 := by rw [ByteArray.size_extract]; omega
                    have hes := Lib.hid (pl.bs_one cell hk2)
                    clear e e2
                    go_wp2
                    go_round
                    case rel => exact ⟨k + 2, cell ++ [s[k + 1]], by omega, by omega, by go_num, congrArg Value.string hes.out, by rw [List.length_append, List.length_singleton]; omega, HN⟩
                    case measure => simp [intOf]; omega
                  · have g2 : ¬ (s[k + 1].toNat : Int) = 34 := pl.byte_neN e2 rfl
                    have HE := Lib.hid (HAT.out.mono (fun X t ht h => (h.stop (fun _ => ⟨e, fun _ => e2⟩)).2))
                    by_cases e4 : s[k + 1] = 44
                    · have g4 : (s[k + 1].toNat : Int) = 44 := by rw [e4]; rfl
                      have HAL := Lib.hid (HE.out.push (by omega))
                      go_wp2_with (at_builtin; refine wpList_append_own _ rfl _ _ 23 rfl w.heap.size 9 i0 (.string ByteArray.empty) 1 16 Tryd.underlying23 hi hz0 hz1 hz2 rfl (by decide) _ _ _ rfl (World.ownsRow.alloc HO.out _) ⟨_, 0, none⟩ 1 1 [.string (pl.bs cell)] rfl rfl (cell_one_new _ _ _) (by intro u hu; simp at hu; subst hu; rfl) (by unfold maxLen; omega) (by omega) (by have := HB.out.size; simp at this ⊢; omega) ?_)
                      intro v5 w5 hown5 hgrow5 _
                      have HQ5 := Lib.hid (OStrs.push1 hown5)
                      have HB5 := Lib.hid ((HB.out.alloc HB.out.size _).grown hgrow5 (by have := HB.out.size; simp at this ⊢; omega) (fun g hg => (World.ownsRow.lt HO.out g hg).1))
                      have HSZ5 := Lib.hid (pl.sizes_push HSZ.out (show (pl.bs cell).size ≤ 400 by show cell.length ≤ 400; omega))
                      clear hown5 hgrow5
                      go_wp2
                      go_roundw
                      case rel => exact ⟨k + 2, _, by omega, by go_num, HQ5, by rw [List.length_append, List.length_singleton]; omega, HSZ5, HAL, HB5⟩
                      case measure => simp [intOf]; omega
                    · have g4 : ¬ (s[k + 1].toNat : Int) = 44 := pl.byte_neN e4 rfl
                      have NOL : Hid (∀ l, pl.vCells l = true → pl.quoR l = s → False) := Lib.hid (fun l hv hq => by
                          obtain ⟨j, _, _, h⟩ := HE.out l hv hq
                          exact e4 (h.comma (pl.tlC_head l _) hk2))
                      go_wp2_with fail
                      go_ret2
                      exact ⟨_, [], false, rfl, OStrs.nil _ _, by simp, fun i h => by simp at h, fun l hv hq => absurd (NOL.out l hv hq) id, HB.out⟩
                · have g2 : ¬ (k : Int) + 1 < (s.size : Int) := by omega
                  have HE := Lib.hid (HAT.out.mono (fun X t ht h => (h.stop (fun _ => ⟨e, fun h2 => absurd h2 hk2⟩)).2))
                  have HAL := Lib.hid (HE.out.push (by omega))
                  go_wp2_with (at_builtin; refine wpList_append_own _ rfl _ _ 23 rfl w.heap.size 9 i0 (.string ByteArray.empty) 1 16 Tryd.underlying23 hi hz0 hz1 hz2 rfl (by decide) _ _ _ rfl (World.ownsRow.alloc HO.out _) ⟨_, 0, none⟩ 1 1 [.string (pl.bs cell)] rfl rfl (cell_one_new _ _ _) (by intro u hu; simp at hu; subst hu; rfl) (by unfold maxLen; omega) (by omega) (by have := HB.out.size; simp at this ⊢; omega) ?_)
                  intro v5 w5 hown5 hgrow5 _
                  have HQ5 := Lib.hid (OStrs.push1 hown5)
                  have HB5 := Lib.hid ((HB.out.alloc HB.out.size _).grown hgrow5 (by have := HB.out.size; simp at this ⊢; omega) (fun g hg => (World.ownsRow.lt HO.out g hg).1))
                  have HSZ5 := Lib.hid (pl.sizes_push HSZ.out (show (pl.bs cell).size ≤ 400 by show cell.length ≤ 400; omega))
                  clear hown5 hgrow5
                  go_wp2
                  go_roundw
                  case rel => exact ⟨k + 2, _, by omega, by go_num, HQ5, by rw [List.length_append, List.length_singleton]; omega, HSZ5, HAL, HB5⟩
                  case measure => simp [intOf]; omega
              · have g1 : ¬ (s[k].toNat : Int) = 34 := pl.byte_neN e rfl
                have HN := Lib.hid (HAT.out.mono (fun X t ht h => h.plain hk e))
                have hex : (s.extract k (k + 1)).size ≤ 1 := by rw [ByteArray.size_extract]; omega
                have hes := Lib.hid (pl.bs_one cell hk)
                clear e
                go_wp2
                go_round
                case rel => exact ⟨k + 1, cell ++ [s[k]], by omega, by omega, by go_num, congrArg Value.string hes.out, by rw [List.length_append, List.length_singleton]; omega, HN⟩
                case measure => simp [intOf]; omega
            · have hki : ¬ (k : Int) < (s.size : Int) := by omega
              have NOL : Hid (∀ l, pl.vCells l = true → pl.quoR l = s → False) := Lib.hid (fun l hv hq => by
                obtain ⟨j, _, _, h⟩ := HAT.out l hv hq
                exact absurd (h.stop (fun h2 => absurd h2 hk)).1 hk)
              go_wp2_with fail
              go_ret2
              exact ⟨_, [], false, rfl, OStrs.nil _ _, by simp, fun i h => by simp at h, fun l hv hq => absurd (NOL.out l hv hq) id, HB.out⟩
        · have g0 : ¬ (s[i].toNat : Int) = 34 := pl.byte_neN e0 rfl
          have HQ0 := Lib.hid (HAI.out.unquoted hle (fun _ => e0))
          clear e0 HAI
          go_wp2_with fail
          go_loop [5, 6] (fun iv cv => ∃ (k : Nat) (cell : List UInt8), i ≤ k ∧ k ≤ s.size ∧ iv = .int .i64 k ∧ cv = .string (pl.bs cell) ∧ cell.length + i ≤ k ∧ Hid (pl.At s out (pl.FU s k cell))) (fun iv _ => s.size - (intOf iv).toNat)
          case atStart => exact ⟨i, [], Nat.le_refl _, by omega, rfl, rfl, by simp, HQ0⟩
          case round =>
            obtain ⟨k, cell, hik, hkn, rfl, rfl, hcl, HAT⟩ := hrel
            have hcz : (pl.bs cell).size ≤ 400 := by show cell.length ≤ 400; omega
            have hw1 : IntKind.i64.wrap ((k : Int) + 1) = (k : Int) + 1 := by rw [IntKind.wrap_i64]; omega
            by_cases hk : k < s.size
            · by_cases e : s[k] = 44
              · have g1 : (s[k].toNat : Int) = 44 := by rw [e]; rfl
                have HAL := Lib.hid ((HAT.out.mono (fun X t ht h => h.stop (fun _ => e))).push (by omega))
                go_wp2_with (at_builtin; refine wpList_append_own _ rfl _ _ 23 rfl w.heap.size 9 i0 (.string ByteArray.empty) 1 16 Tryd.underlying23 hi hz0 hz1 hz2 rfl (by decide) _ _ _ rfl (World.ownsRow.alloc HO.out _) ⟨_, 0, none⟩ 1 1 [.string (pl.bs cell)] rfl rfl (cell_one_new _ _ _) (by intro u hu; simp at hu; subst hu; rfl) (by unfold maxLen; omega) (by omega) (by have := HB.out.size; simp at this ⊢; omega) ?_)
                intro v5 w5 hown5 hgrow5 _
                have HQ5 := Lib.hid (OStrs.push1 hown5)
                have HB5 := Lib.hid ((HB.out.alloc HB.out.size _).grown hgrow5 (by have := HB.out.size; simp at this ⊢; omega) (fun g hg => (World.ownsRow.lt HO.out g hg).1))
                have HSZ5 := Lib.hid (pl.sizes_push HSZ.out (show (pl.bs cell).size ≤ 400 by show cell.length ≤ 400; omega))
                clear hown5 hgrow5
                go_wp2
                go_roundw
                case rel => exact ⟨k + 1, _, by omega, by go_num, HQ5, by rw [List.length_append, List.length_singleton]; omega, HSZ5, HAL, HB5⟩
                case measure => simp [intOf]; omega
              · have g1 : ¬ (s[k].toNat : Int) = 44 := pl.byte_neN e rfl
                have HN := Lib.hid (HAT.out.mono (fun X t ht h => h.plain ht hk e))
                have hex : (s.extract k (k + 1)).size ≤ 1 := by rw [ByteArray.size_extract]; omega
                have hes := Lib.hid (pl.bs_one cell hk)
                clear e
                go_wp2
                go_round
                case rel => exact ⟨k + 1, cell ++ [s[k]], by omega, by omega, by go_num, congrArg Value.string hes.out, by rw [List.length_append, List.length_singleton]; omega, HN⟩
                case measure => simp [intOf]; omega
            · have hki : ¬ (k : Int) < (s.size : Int) := by omega
              have HAL := Lib.hid ((HAT.out.mono (fun X t ht h => h.stop (fun h2 => absurd h2 hk))).push (by omega))
              go_wp2_with (at_builtin; refine wpList_append_own _ rfl _ _ 23 rfl w.heap.size 9 i0 (.string ByteArray.empty) 1 16 Tryd.underlying23 hi hz0 hz1 hz2 rfl (by decide) _ _ _ rfl (World.ownsRow.alloc HO.out _) ⟨_, 0, none⟩ 1 1 [.string (pl.bs cell)] rfl rfl (cell_one_new _ _ _) (by intro u hu; simp at hu; subst hu; rfl) (by unfold maxLen; omega) (by omega) (by have := HB.out.size; simp at this ⊢; omega) ?_)
              intro v5 w5 hown5 hgrow5 _
              have HQ5 := Lib.hid (OStrs.push1 hown5)
              have HB5 := Lib.hid ((HB.out.alloc HB.out.size _).grown hgrow5 (by have := HB.out.size; simp at this ⊢; omega) (fun g hg => (World.ownsRow.lt HO.out g hg).1))
              have HSZ5 := Lib.hid (pl.sizes_push HSZ.out (show (pl.bs cell).size ≤ 400 by show cell.length ≤ 400; omega))
              clear hown5 hgrow5
              go_wp2
              go_roundw
              case rel => exact ⟨k + 1, _, by omega, by go_num, HQ5, by rw [List.length_append, List.length_singleton]; omega, HSZ5, HAL, HB5⟩
              case measure => simp [intOf]; omega
      · have g0 : ¬ (i : Int) < (s.size : Int) := by omega
        have HQ0 := Lib.hid (HAI.out.unquoted hle (fun h => absurd h hin))
        clear HAI
        go_wp2_with fail
        go_loop [5, 6] (fun iv cv => ∃ (k : Nat) (cell : List UInt8), i ≤ k ∧ k ≤ s.size ∧ iv = .int .i64 k ∧ cv = .string (pl.bs cell) ∧ cell.length + i ≤ k ∧ Hid (pl.At s out (pl.FU s k cell))) (fun iv _ => s.size - (intOf iv).toNat)
        case atStart => exact ⟨i, [], Nat.le_refl _, by omega, rfl, rfl, by simp, HQ0⟩
        case round =>
          obtain ⟨k, cell, hik, hkn, rfl, rfl, hcl, HAT⟩ := hrel
          have hcz : (pl.bs cell).size ≤ 400 := by show cell.length ≤ 400; omega
          have hw1 : IntKind.i64.wrap ((k : Int) + 1) = (k : Int) + 1 := by rw [IntKind.wrap_i64]; omega
          by_cases hk : k < s.size
          · exact absurd hk (by omega)
          · have hki : ¬ (k : Int) < (s.size : Int) := by omega
            have HAL := Lib.hid ((HAT.out.mono (fun X t ht h => h.stop (fun h2 => absurd h2 hk))).push (by omega))
            go_wp2_with (at_builtin; refine wpList_append_own _ rfl _ _ 23 rfl w.heap.size 9 i0 (.string ByteArray.empty) 1 16 Tryd.underlying23 hi hz0 hz1 hz2 rfl (by decide) _ _ _ rfl (World.ownsRow.alloc HO.out _) ⟨_, 0, none⟩ 1 1 [.string (pl.bs cell)] rfl rfl (cell_one_new _ _ _) (by intro u hu; simp at hu; subst hu; rfl) (by unfold maxLen; omega) (by omega) (by have := HB.out.size; simp at this ⊢; omega) ?_)
            intro v5 w5 hown5 hgrow5 _
            have HQ5 := Lib.hid (OStrs.push1 hown5)
            have HB5 := Lib.hid ((HB.out.alloc HB.out.size _).grown hgrow5 (by have := HB.out.size; simp at this ⊢; omega) (fun g hg => (World.ownsRow.lt HO.out g hg).1))
            have HSZ5 := Lib.hid (pl.sizes_push HSZ.out (show (pl.bs cell).size ≤ 400 by show cell.length ≤ 400; omega))
            clear hown5 hgrow5
            go_wp2
            go_roundw
            case rel => exact ⟨k + 1, _, by omega, by go_num, HQ5, by rw [List.length_append, List.length_singleton]; omega, HSZ5, HAL, HB5⟩
            case measure => simp [intOf]; omega
    · have HALL := Lib.hid (HAI.out.all (by omega))
      go_wp2_with fail
      go_ret2
      exact ⟨_, out, true, rfl, HO.out, by omega, HSZ.out, fun l hv hq => ⟨HALL.out l hv hq, rfl⟩, HB.out⟩
end Go.Proofs.YtpfheanpbbfpdaaDoor
