/- Contract: the model's ReadCells. -/
import Derived.Test.YtpfheanpbbfpdaaDoorReadM
import Derived.Test.YtpfheanpbbfpdaaDoorQuotC
import Derived.Test.YtpfheanpbbfpdaaDoorReadC
namespace Go.Proofs.YtpfheanpbbfpdaaDoor
open Go.RowKit
set_option maxRecDepth 100000
set_option linter.unusedVariables false

namespace pl
theorem quoR_size' (l : List ByteArray) : (quoR l).size ≤ 175 := by
  cases h : vCells l with
  | false => rw [quoR_no h]; simp [bs_size]
  | true => rw [quoR_yes h]; exact quoJ_size h
theorem rc_no {s : ByteArray} (h : rcB s = true → False) : rcB s = false ∧ rcR s = [] := by
  have h1 : rcB s = false := by cases hb : rcB s with
    | true => exact (h hb).elim
    | false => rfl
  exact ⟨h1, by unfold rcR; rw [h1]; rfl⟩
theorem rcB_quo {s : ByteArray} (h : rcB s = true) : quoR (cellsL s.data.toList) = s := of_decide_eq_true h
theorem rc_long {s : ByteArray} (h : 180 < s.size) : rcB s = false ∧ rcR s = [] :=
  rc_no fun hb => by have := quoR_size' (cellsL s.data.toList); rw [rcB_quo hb] at this; omega
theorem rc_told {s : ByteArray} {out : List ByteArray} {ok : Bool} (hu : ∀ l, vCells l = true → quoR l = s → out = l ∧ ok = true) (h : ok = false ∨ ¬ quoR out = s ∨ s.size = 0) : rcB s = false ∧ rcR s = [] :=
  rc_no fun hb => by
    have hv := rcB_valid hb
    obtain ⟨h1, h2⟩ := hu _ hv (rcB_quo hb)
    rcases h with h | h | h
    · rw [h] at h2; cases h2
    · exact h (by rw [h1]; exact rcB_quo hb)
    · have := quoR_ne hv
      rw [rcB_quo hb] at this
      exact this (List.length_eq_zero_iff.1 (by rw [len_eq]; exact h))
theorem rc_yes {s : ByteArray} {out : List ByteArray} (h : quoR out = s) (h2 : ¬ s.size = 0) : rcB s = true ∧ rcR s = out := by
  obtain ⟨h3, h4⟩ := rc_only h (fun e => h2 (by rw [← len_eq, e]; rfl))
  exact ⟨h3, by unfold rcR; rw [if_pos h3, h4]⟩
theorem rcR_len (s : ByteArray) : (rcR s).length ≤ 1000000 := by
  unfold rcR
  split
  · rename_i h
    have := (vCells_parts (rcB_valid h)).2.1
    omega
  · simp
end pl

set_option maxHeartbeats 2000000 in
theorem sReadCells_any (s : ByteArray) (w : World) (hs : s.size ≤ 1048576) :
    Calls Tryd.prog 23 #[.string s] w fun e w' => ∃ v', e = .returned (.tuple #[v', .bool (pl.rcB s)]) ∧ OStrs w.heap.size w' v' (pl.rcR s) ∧ Below w.heap.size w w' := by
  go_enter Tryd.func23, Tryd.ntmps23
  by_cases hlong : 180 < s.size
  · have HR := Lib.hid (pl.rc_long hlong)
    have hi : (180 : Int) < (s.size : Int) := by omega
    go_wp2_with fail
    go_ret2
    exact ⟨_, by rw [HR.out.1]; rfl, by rw [HR.out.2]; exact OStrs.nil _ _, Below.refl _ _⟩
  · have hi : ¬ (180 : Int) < (s.size : Int) := by omega
    go_wp2_with fail
    refine (sreadCells_any s _ (by omega)).mono ?_
    rintro e w1 ⟨v, out, ok, rfl, ho, hol, hsz, hu, hb⟩
    have HU := Lib.hid hu
    have HO := Lib.hid ho
    have HB := Lib.hid hb
    have HL : Hid (out.length ≤ 1048576) := Lib.hid (by omega)
    have HSZ : Hid (∀ i, i < out.length → (nth out i).size ≤ 1048576) := Lib.hid (fun i hi => by have := hsz i hi; omega)
    clear hu ho hb hol hsz
    have HUF : Hid (ok = false → pl.rcB s = false ∧ pl.rcR s = []) := Lib.hid (fun e => pl.rc_told HU.out (.inl e))
    have HUQ : Hid (¬ pl.quoR out = s → pl.rcB s = false ∧ pl.rcR s = []) := Lib.hid (fun e => pl.rc_told HU.out (.inr (.inl e)))
    have HUZ : Hid (s.size = 0 → pl.rcB s = false ∧ pl.rcR s = []) := Lib.hid (fun e => pl.rc_told HU.out (.inr (.inr e)))
    clear HU
    cases ok with
    | false =>
      have HR := Lib.hid (HUF.out rfl)
      clear HUF HUQ HUZ
      go_wp2_with fail
      go_ret2
      exact ⟨_, by rw [HR.out.1]; rfl, by rw [HR.out.2]; exact OStrs.nil _ _, HB.out⟩
    | true =>
      go_wp2_with fail
      refine (sQuoteCells_any out v _ HO.out.lreads HL.out HSZ.out).mono ?_
      rintro e w2 ⟨rfl, hb2⟩
      have HO2 := Lib.hid (HO.out.below (Nat.le_refl _) hb2)
      have HB2 := Lib.hid (HB.out.trans (hb2.mono HB.out.size))
      clear hb2
      obtain ⟨t, HT⟩ : ∃ t, Hid (pl.quoR out = t) := ⟨_, Lib.hid rfl⟩
      rw [HT.out]
      by_cases ht : t = s
      · by_cases h0 : s.size = 0
        · have HR := Lib.hid (HUZ.out h0)
          have he := pl.empty_of h0
          subst ht
          clear HUF HUQ HUZ HT h0
          go_wp2_with fail
          go_ret2
          exact ⟨_, by rw [HR.out.1]; rfl, by rw [HR.out.2]; exact OStrs.nil _ _, HB2.out⟩
        · have HR := Lib.hid (pl.rc_yes (HT.out.trans ht) h0)
          have he := pl.nonempty_of h0
          subst ht
          clear HUF HUQ HUZ HT h0
          go_wp2_with fail
          go_ret2
          exact ⟨_, by rw [HR.out.1]; rfl, by rw [HR.out.2]; exact HO2.out, HB2.out⟩
      · have HR := Lib.hid (HUQ.out (by rw [HT.out]; exact ht))
        have hne := toList_ne ht
        clear HUF HUQ HUZ HT ht
        go_wp2_with fail
        go_ret2
        exact ⟨_, by rw [HR.out.1]; rfl, by rw [HR.out.2]; exact OStrs.nil _ _, HB2.out⟩
end Go.Proofs.YtpfheanpbbfpdaaDoor
