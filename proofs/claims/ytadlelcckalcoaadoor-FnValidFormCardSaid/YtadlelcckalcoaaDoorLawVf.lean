/- The walk of FnValidForm. -/
import Derived.Test.YtadlelcckalcoaaDoorDrawSf
import Derived.Test.YtadlelcckalcoaaDoorFillSm
import Derived.Test.YtadlelcckalcoaaDoorMaxI
namespace Go.Proofs.YtadlelcckalcoaaDoor
open Go.RowKit
set_option maxRecDepth 100000
set_option linter.unusedVariables false
namespace pl
theorem form_same {s : ByteArray} (h : formB s = true) : SomeIs s [] (some s.data.toList) := by
  unfold formB at h
  obtain ⟨ts, ht⟩ := Option.isSome_iff_exists.1 h
  obtain ⟨hv, hk, _⟩ := formT_parts ht
  have he : someT (lookL (toFL [])) ts = s.data.toList := some_nothing s.data.toList.length s.data.toList (Nat.le_refl _) ts hk
  refine .inr ⟨⟨Nat.zero_le _, goodTo_zero _⟩, ts, ht, .inl ?_⟩
  rw [he]; exact ⟨hv, rfl⟩
end pl

set_option maxHeartbeats 8000000 in
theorem fnValidForm_walk (a : Option Addr) (len cap : Nat) (zs : List Int) (w : World) (hr : IsRow .u8 w a len cap zs) (hmx : MaxI w) (hex : ErrI w) :
    Calls Tryd.prog 3 #[.slice a len cap] w fun e w' => e = .returned (.bool true) ∧ Below w.heap.size w w' := by
  have hlen := row_len hr
  have HMX := Lib.hid hmx
  have HEX := Lib.hid hex
  clear hmx hex
  by_cases hb : 1048576 < len
  · go_enter Tryd.func3, Tryd.ntmps3
    go_wp2
    go_ret
    exact ⟨rfl, Below.refl _ _⟩
  · go_enter Tryd.func3, Tryd.ntmps3
    go_wp2_with fail
    refine (dValidForm_any a len cap zs _ hr).mono ?_
    rintro e w1 ⟨s, rfl, hs, hb1⟩
    have HB1 := Lib.hid hb1
    clear hb1
    go_wp2_with fail
    refine (iValidForm_any s _ (by unfold maxLen; omega) (HMX.out.below (Nat.le_refl _) HB1.out) (HEX.out.below (Nat.le_refl _) HB1.out)).mono ?_
    rintro e w2 ⟨rfl, hb2⟩
    have HB2 := Lib.hid (HB1.out.trans (hb2.mono HB1.out.size))
    clear hb2
    cases hf : pl.formB s with
    | false =>
      have HF := Lib.hid hf
      clear hf
      go_wp2_with fail
      refine (sValidForm_any s _ (by omega)).mono ?_
      rintro e w3 ⟨rfl, hb3⟩
      rw [HF.out]
      have HB3 := Lib.hid (HB2.out.trans (hb3.mono HB2.out.size))
      clear hb3
      go_wp2_with fail
      refine (sValidForm_any s _ (by omega)).mono ?_
      rintro e w4 ⟨rfl, hb4⟩
      rw [HF.out]
      have HB4 := Lib.hid (HB3.out.trans (hb4.mono HB3.out.size))
      clear hb4
      go_wp2_with fail
      go_ret
      exact ⟨rfl, HB4.out⟩
    | true =>
      have HF := Lib.hid hf
      have HF2 := Lib.hid (pl.form_same hf)
      clear hf
      go_wp2_with fail
      refine (sValidForm_any s _ (by omega)).mono ?_
      rintro e w3 ⟨rfl, hb3⟩
      rw [HF.out]
      have HB3 := Lib.hid (HB2.out.trans (hb3.mono HB2.out.size))
      clear hb3
      go_wp2_with fail
      refine (iFillSome_any s [] _ _ (by unfold maxLen; omega) ?ma (.inl ⟨rfl, _, _, rfl⟩) (Nat.zero_le _) (fun i h => by simp at h)).mono ?_
      case ma => first | exact HMX.out.below (Nat.le_refl _) HB3.out | exact HMX.out.below (Nat.le_refl _) (HB3.out.alloc HB3.out.size _)
      rintro e w4 ⟨hb4, o, ho, hres⟩
      have HB4 : Hid (Below w.heap.size w w4) := Lib.hid (by first | exact HB3.out.trans (hb4.mono HB3.out.size) | exact (HB3.out.alloc HB3.out.size _).trans (hb4.mono (by simp; have := HB3.out.size; omega)))
      obtain rfl : o = some s.data.toList := pl.SomeIs.uniq ho HF2.out
      clear hb4 ho
      rcases hres with ⟨x, hx, rfl⟩ | ⟨hx, rfl⟩
      · injection hx with hx
        subst hx
        rw [pl.bs_self]
        have hss : (s.toList == s.toList) = true := by simp
        go_wp2_with fail
        go_ret
        exact ⟨rfl, HB4.out⟩
      · cases hx
end Go.Proofs.YtadlelcckalcoaaDoor
