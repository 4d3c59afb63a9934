/- The walk of FnEscapeForm. -/
import Derived.Test.YtadlelcckalcoaaDoorDrawEs
import Derived.Test.YtadlelcckalcoaaDoorEsc
import Derived.Test.YtadlelcckalcoaaDoorFillI
import Derived.Test.YtadlelcckalcoaaDoorHoles
import Derived.Test.YtadlelcckalcoaaDoorMaxI
namespace Go.Proofs.YtadlelcckalcoaaDoor
open Go.RowKit
set_option maxRecDepth 100000
set_option linter.unusedVariables false
namespace pl
theorem esc_form {s : ByteArray} (h : validT (dblB s.data.toList) = true) : formT (escR s).data.toList = some (s.data.toList.map Sum.inl) := by
  rw [escR_yes h, bs_data]
  have ht := toks_dbl s.data.toList []
  rw [List.append_nil, toks_nil] at ht
  have hh : holesT (s.data.toList.map Sum.inl) = [] := holesT_bytes _
  refine formT_some h (by rw [ht]; simp) (by rw [hh]; simp)
theorem esc_holes {s : ByteArray} (h : validT (dblB s.data.toList) = true) : holesR (escR s) = [] := by
  rw [holesR_yes (esc_form h)]
  unfold holesD
  rw [holesT_bytes]; rfl
theorem esc_fill {s : ByteArray} (h : validT (dblB s.data.toList) = true) : FillIs (escR s) [] (some s.data.toList) := by
  have hv : validT s.data.toList = true := by
    cases hc : validT s.data.toList with
    | true => rfl
    | false => rw [dblB_valid hc] at h; cases h
  exact .inr ⟨⟨Nat.zero_le _, goodTo_zero _⟩, _, esc_form h, .inr ⟨s.data.toList, fillT_bytes _ _, .inl ⟨hv, rfl⟩⟩⟩
theorem escR_size (s : ByteArray) : (escR s).size ≤ 120 := by
  cases h : validT (dblB s.data.toList) with
  | true => rw [escR_yes h, bs_size]; exact validT_len h
  | false => rw [escR_no h]; exact Nat.zero_le _
theorem esc_ok {s : ByteArray} (h : ¬ (escR s).size = 0) : validT (dblB s.data.toList) = true := by
  cases hc : validT (dblB s.data.toList) with
  | true => rfl
  | false => rw [escR_no hc] at h; exact absurd rfl h
end pl

set_option maxHeartbeats 8000000 in
theorem fnEscapeForm_walk (a : Option Addr) (len cap : Nat) (zs : List Int) (w : World) (hr : IsRow .u8 w a len cap zs) (hmx : MaxI w) :
    Calls Tryd.prog 5 #[.slice a len cap] w fun e w' => e = .returned (.bool true) ∧ Below w.heap.size w w' := by
  have hlen := row_len hr
  have HMX := Lib.hid hmx
  clear hmx
  by_cases hb : 1048576 < len
  · go_enter Tryd.func5, Tryd.ntmps5
    go_wp2
    go_ret
    exact ⟨rfl, Below.refl _ _⟩
  · go_enter Tryd.func5, Tryd.ntmps5
    go_wp2_with fail
    refine (dEscapeForm_any a len cap zs _ hr).mono ?_
    rintro e w1 ⟨s, rfl, hs, hb1⟩
    have HB1 := Lib.hid hb1
    clear hb1
    have HZ := Lib.hid (pl.escR_size s)
    have HF := Lib.hid (fun h => pl.esc_fill (s := s) h)
    have HH := Lib.hid (fun h => pl.esc_holes (s := s) h)
    have HE0 := Lib.hid (fun h => pl.esc_ok (s := s) h)
    obtain ⟨f, HFF⟩ : ∃ f, Hid (pl.escR s = f) := ⟨_, Lib.hid rfl⟩
    rw [HFF.out] at HZ HF HH HE0
    go_wp2_with fail
    refine (iEscapeForm_any s _ (by omega) (HMX.out.below (Nat.le_refl _) HB1.out)).mono ?_
    rintro e w2 ⟨rfl, hb2⟩
    rw [HFF.out]
    have HB2 := Lib.hid (HB1.out.trans (hb2.mono HB1.out.size))
    clear hb2
    have hff : (f.toList != f.toList) = false := by simp
    have hfe : (f.toList == f.toList) = true := by simp
    by_cases hz : f.size = 0
    · have hze := pl.empty_of hz
      clear hz
      go_wp2_with fail
      refine (sEscapeForm_any s _ (by unfold maxLen; omega)).mono ?_
      rintro e w3 ⟨rfl, hb3⟩
      rw [HFF.out]
      have HB3 := Lib.hid (HB2.out.trans (hb3.mono HB2.out.size))
      clear hb3
      go_wp2_with fail
      refine (sEscapeForm_any s _ (by unfold maxLen; omega)).mono ?_
      rintro e w4 ⟨rfl, hb4⟩
      rw [HFF.out]
      have HB4 := Lib.hid (HB3.out.trans (hb4.mono HB3.out.size))
      clear hb4
      go_wp2_with fail
      go_ret
      exact ⟨rfl, HB4.out⟩
    · have hze := pl.nonempty_of hz
      have hok := HE0.out hz
      have HF2 := Lib.hid (HF.out hok)
      have HH2 := Lib.hid (HH.out hok)
      have hfz : f.size ≤ 120 := HZ.out
      clear hz hok
      go_wp2_with fail
      refine (sEscapeForm_any s _ (by unfold maxLen; omega)).mono ?_
      rintro e w3 ⟨rfl, hb3⟩
      rw [HFF.out]
      have HB3 := Lib.hid (HB2.out.trans (hb3.mono HB2.out.size))
      clear hb3
      go_wp2_with fail
      refine (iFillForm_any f [] _ _ (by unfold maxLen; omega) ?ma (.inl ⟨rfl, _, _, rfl⟩) (Nat.zero_le _) (fun i h => by simp at h)).mono ?_
      case ma => first | exact HMX.out.below (Nat.le_refl _) HB3.out | exact HMX.out.below (Nat.le_refl _) (HB3.out.alloc HB3.out.size _)
      rintro e w4 ⟨hb4, o, ho, hres⟩
      have HB4 : Hid (Below w.heap.size w w4) := Lib.hid (by first | exact HB3.out.trans (hb4.mono HB3.out.size) | exact (HB3.out.alloc HB3.out.size _).trans (hb4.mono (by simp; have := HB3.out.size; omega)))
      obtain rfl : o = some s.data.toList := pl.FillIs.uniq ho HF2.out
      clear hb4 ho
      rcases hres with ⟨x, hx, rfl⟩ | ⟨hx, rfl⟩
      · injection hx with hx
        subst hx
        rw [pl.bs_self]
        have hss : (s.toList == s.toList) = true := by simp
        go_wp2_with fail
        refine (iHolesOf_any f _ (by unfold maxLen; omega) (HMX.out.below (Nat.le_refl _) HB4.out)).mono ?_
        rintro e w5 ⟨v5, rfl, ho5, hb5⟩
        rw [HH2.out] at ho5
        obtain ⟨a5, c5, rfl⟩ := ho5.reads.slice
        have HB5 := Lib.hid (HB4.out.trans (hb5.mono HB4.out.size))
        clear ho5 hb5
        go_wp2_with fail
        go_ret
        exact ⟨rfl, HB5.out⟩
      · cases hx
end Go.Proofs.YtadlelcckalcoaaDoor
