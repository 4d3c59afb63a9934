/- The walk of FnExactFillForm. -/
import Derived.Test.YtadlelcckalcoaaFillS
import Derived.Test.YtadlelcckalcoaaArgsF
import Derived.Test.YtadlelcckalcoaaMaxI
namespace Go.Proofs.Ytadlelcckalcoaa
open Go.RowKit
set_option maxRecDepth 100000
set_option linter.unusedVariables false

set_option maxHeartbeats 8000000 in
theorem fnExactFillForm_walk (a0 : ByteArray) (a1 : Option Addr) (len1 cap1 : Nat) (w : World) (h0 : a0.size ≤ maxLen) (h1 : IsFills w a1 len1 cap1) (hmx : MaxI w) :
    Calls Try.prog 7 #[.string a0, .slice a1 len1 cap1] w fun e w' => e = .returned (.bool true) ∧ Below w.heap.size w w' := by
  have HMX := Lib.hid hmx
  clear hmx
  have hs0 := h0
  unfold maxLen at hs0
  by_cases hb0 : 1048576 < a0.size
  · go_enter Try.func7, Try.ntmps7
    go_wp2_with fail
    go_ret
    exact ⟨rfl, Below.refl _ _⟩
  obtain ⟨fl, hr, hfl, hlm, hsz⟩ := h1.reads
  have HR := Lib.hid hr
  obtain ⟨v1, HV⟩ : ∃ v1, Hid (Value.slice a1 len1 cap1 = v1) := ⟨_, Lib.hid rfl⟩
  rw [HV.out] at HR ⊢
  have hlm2 : fl.length ≤ maxLen := by rw [hfl]; exact hlm
  have HSZ := Lib.hid hsz
  clear hr h1 hsz hfl hlm
  go_enter Try.func7, Try.ntmps7
  go_wp2_with fail
  refine (szFillS_any fl v1 1048576 _ HR.out (Nat.le_refl _) hlm2 HSZ.out).mono ?_
  rintro e w1 ⟨⟨r, rfl, hres⟩, hb⟩
  have HB1 := Lib.hid hb
  clear hb
  rcases hres with hneg | ⟨hpos, hsm⟩
  · go_wp2_with fail
    go_ret
    exact ⟨rfl, HB1.out⟩
  obtain ⟨r, rfl⟩ := Int.eq_ofNat_of_zero_le hpos
  have hneg : ¬ (r : Int) < 0 := by omega
  have HSM := Lib.hid hsm
  have HR1 := Lib.hid (HR.out.below (Nat.le_refl _) HB1.out)
  clear hsm hlm2
  go_wp2_with fail
  refine (toFillS_any fl v1 _ HR1.out HSM.out.1).mono ?_
  rintro e w2 ⟨u2, rfl, hu, hb⟩
  have HU2 := Lib.hid hu
  have HR2 := Lib.hid (HR1.out.below (Nat.le_refl _) hb)
  have HB2 := Lib.hid (HB1.out.trans (hb.mono HB1.out.size))
  clear hu hb
  go_wp2_with fail
  refine (sFillForm_any a0 fl u2 _ (by omega) HU2.out HSM.out.1 HSM.out.2).mono ?_
  rintro e w3 ⟨hb, o, ho, hres⟩
  have HO := Lib.hid ho
  have HR3 := Lib.hid (HR2.out.below (Nat.le_refl _) hb)
  have HB3 := Lib.hid (HB2.out.trans (hb.mono HB2.out.size))
  clear hb ho
  obtain ⟨s1, b1, he, HV1⟩ : ∃ (s1 : ByteArray) (b1 : Bool), e = .returned (.tuple #[.string s1, .bool b1]) ∧ Hid ((∃ x, o = some x ∧ s1 = pl.bs x ∧ b1 = true) ∨ (o = none ∧ s1 = ⟨#[]⟩ ∧ b1 = false)) := by
    rcases hres with ⟨x, hx, rfl⟩ | ⟨hx, rfl⟩
    · exact ⟨_, _, rfl, Lib.hid (.inl ⟨x, hx, rfl, rfl⟩)⟩
    · exact ⟨_, _, rfl, Lib.hid (.inr ⟨hx, rfl, rfl⟩)⟩
  subst he
  clear hres
  go_wp2_with fail
  refine (toFillS_any fl v1 _ HR3.out HSM.out.1).mono ?_
  rintro e w4 ⟨u4, rfl, hu, hb⟩
  have HU4 := Lib.hid hu
  have HR4 := Lib.hid (HR3.out.below (Nat.le_refl _) hb)
  have HB4 := Lib.hid (HB3.out.trans (hb.mono HB3.out.size))
  clear hu hb
  go_wp2_with fail
  refine (iFillForm_any a0 fl u4 _ h0 (HMX.out.below (Nat.le_refl _) HB4.out) HU4.out HSM.out.1 HSM.out.2).mono ?_
  rintro e w5 ⟨hb, o2, ho, hres⟩
  have HR5 := Lib.hid (HR4.out.below (Nat.le_refl _) hb)
  have HU5 := Lib.hid (HU4.out.below (Nat.le_refl _) hb)
  have HB5 := Lib.hid (HB4.out.trans (hb.mono HB4.out.size))
  obtain rfl : o2 = o := pl.FillIs.uniq ho HO.out
  obtain he : e = .returned (.tuple #[.string s1, .bool b1]) := by
    rcases hres with ⟨x, hx, rfl⟩ | ⟨hx, rfl⟩
    · rcases HV1.out with ⟨y, hy, rfl, rfl⟩ | ⟨hy, rfl, rfl⟩
      · rw [hx] at hy; injection hy with hy; rw [hy]
      · rw [hx] at hy; cases hy
    · rcases HV1.out with ⟨y, hy, rfl, rfl⟩ | ⟨hy, rfl, rfl⟩
      · rw [hx] at hy; cases hy
      · rfl
  subst he
  clear hb ho hres
  have hbs : (s1.toList != s1.toList) = false := by simp
  have hbb : (b1 != b1) = false := by simp
  go_wp2_with fail
  refine (toFillS_any fl v1 _ HR5.out HSM.out.1).mono ?_
  rintro e w6 ⟨u6, rfl, hu, hb⟩
  have HU6 := Lib.hid hu
  have HU56 := Lib.hid (HU5.out.below (Nat.le_refl _) hb)
  have HB6 := Lib.hid (HB5.out.trans (hb.mono HB5.out.size))
  clear hu hb
  go_wp2_with fail
  refine (eqFillS_same fl u4 u6 _ HU56.out HU6.out HSM.out.1).mono ?_
  rintro e w7 ⟨rfl, hb⟩
  have HB7 := Lib.hid (HB6.out.trans (hb.mono HB6.out.size))
  clear hb
  go_wp2_with fail
  go_ret
  exact ⟨rfl, HB7.out⟩
end Go.Proofs.Ytadlelcckalcoaa
