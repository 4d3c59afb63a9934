/- Contracts: twoTexts, DrawCommonOf. -/
import Derived.Test.YtckfpneooknifaaDrawS
namespace Go.Proofs.Ytckfpneooknifaa
open Go.RowKit
set_option maxRecDepth 100000
set_option linter.unusedVariables false

/-- two slices that a call made do not share a block -/
def Apart (a b : Value) : Prop := ∀ g h, a.ownBlock = some g → b.ownBlock = some h → g ≠ h
theorem Apart.kept {B : Nat} {w w' : World} {a v : Value} {l : List ByteArray} (h : Apart a v) (ho : OStrs B w v l) (hg : w.grownBy w' a.ownBlock) : OStrs B w' v l := by
  refine World.ownsRow.kept ho hg ?_
  cases hv : v.ownBlock with
  | none => exact .inl rfl
  | some k => exact .inr (fun e => h k k e.symm hv rfl)
theorem Apart.symm {a b : Value} (h : Apart a b) : Apart b a := fun g k h1 h2 e => h k g h2 h1 e.symm
theorem Apart.left {a a' b : Value} {n : Nat} (h : Apart a b) (hat : a'.ownBlock = a.ownBlock ∨ a'.ownBlock = some n) (hb : ∀ k, b.ownBlock = some k → k < n) : Apart a' b := by
  intro g k h1 h2
  rcases hat with e | e
  · exact h g k (e.symm.trans h1) h2
  · rw [h1] at e; injection e with e; have := hb k h2; omega

/-- two texts that were drawn: their slices, their lines -/
def Two (D x y : Nat) (w : World) (va vb : Value) (A Bl : List ByteArray) : Prop :=
  OStrs D w va A ∧ OStrs D w vb Bl ∧ Apart va vb ∧ A.length ≤ x ∧ Bl.length ≤ y ∧ few 20 A ∧ few 20 Bl
theorem Two.read {D x y g : Nat} {w w' : World} {va vb : Value} {A Bl : List ByteArray} (h : Two D x y w va vb A Bl) (hg : w.grownBy w' (some g)) (hlt : g < D) : Two D x y w' va vb A Bl := by
  obtain ⟨h1, h2, h3⟩ := h
  exact ⟨h1.read hg hlt, h2.read hg hlt, h3⟩
theorem Two.mono {D x y x' y' : Nat} {w : World} {va vb : Value} {A Bl : List ByteArray} (h : Two D x y w va vb A Bl) (hx : x ≤ x') (hy : y ≤ y') : Two D x' y' w va vb A Bl := by
  obtain ⟨h1, h2, h3, h4, h5, h6⟩ := h
  exact ⟨h1, h2, h3, by omega, by omega, h6⟩
theorem Two.pushA {D x y : Nat} {w w' : World} {o : Obj} {va va' vb : Value} {A Bl : List ByteArray} {s : ByteArray} (h : Two D x y w va vb A Bl) (hs : s.size ≤ 20) (hown : OStrs D w' va' (A ++ [s])) (hgrow : (w.alloc o).grownBy w' va.ownBlock) (hat : va'.ownBlock = va.ownBlock ∨ va'.ownBlock = some (w.heap.size + 1)) : ∃ l, Hid (Two D (x + 1) y w' va' vb l Bl) := by
  obtain ⟨h1, h2, h3, h4, h5, h6, h7⟩ := h
  refine ⟨_, Lib.hid ⟨hown, h3.kept (World.ownsRow.alloc h2 _) hgrow, h3.left hat (fun k hk => by have := (World.ownsRow.lt h2 k hk).2; omega), by simp; omega, h5, few_push h6 hs, h7⟩⟩
theorem Two.pushB {D x y : Nat} {w w' : World} {o : Obj} {va vb vb' : Value} {A Bl : List ByteArray} {s : ByteArray} (h : Two D x y w va vb A Bl) (hs : s.size ≤ 20) (hown : OStrs D w' vb' (Bl ++ [s])) (hgrow : (w.alloc o).grownBy w' vb.ownBlock) (hat : vb'.ownBlock = vb.ownBlock ∨ vb'.ownBlock = some (w.heap.size + 1)) : ∃ l, Hid (Two D x (y + 1) w' va vb' A l) := by
  obtain ⟨h1, h2, h3, h4, h5, h6, h7⟩ := h
  refine ⟨_, Lib.hid ⟨h3.symm.kept (World.ownsRow.alloc h1 _) hgrow, hown, (h3.symm.left hat (fun k hk => by have := (World.ownsRow.lt h1 k hk).2; omega)).symm, h4, by simp; omega, h6, few_push h7 hs⟩⟩
theorem Two.small {D x y : Nat} {w : World} {va vb : Value} {A Bl : List ByteArray} (h : Two D x y w va vb A Bl) (hx : x ≤ 100) (hy : y ≤ 100) : A.length ≤ 100 ∧ Bl.length ≤ 100 := ⟨by have := h.2.2.2.1; omega, by have := h.2.2.2.2.1; omega⟩

def GotTwo (q B g n c : Nat) (ao : Option Addr) (w : World) (e : Ending) (w' : World) : Prop :=
  ∃ va vb A Bl, e = .returned (.tuple #[va, vb]) ∧ Two w.heap.size 8 17 w' va vb A Bl ∧ ∃ p', p' ≤ q ∧ Rdr B g n c p' ao w' ∧ w.grownBy w' (some g)
def RdTwo (D p B g n c : Nat) (ao : Option Addr) (w : World) (va vb nv : Value) (wr : World) : Prop :=
  ∃ (j : Nat) (A Bl : List ByteArray) (p' : Nat), j ≤ 8 ∧ nv = .int .i64 j ∧ Hid (Two D (8 - j) (2 * (8 - j)) wr va vb A Bl) ∧ p' ≤ p + 1 + 5 * (8 - j) ∧ Hid (Rdr B g n c p' ao wr) ∧ Hid (w.grownBy wr (some g)) ∧ D ≤ wr.heap.size

set_option maxHeartbeats 16000000 in
theorem twoTexts_any (B g n c p : Nat) (ao : Option Addr) (w : World) (h : Rdr B g n c p ao w) (hp : p ≤ 800000) :
    Calls Try.prog 62 #[.pointer (some ⟨g, 0, none⟩)] w (GotTwo (p + 50) B g n c ao w) := by
  obtain ⟨i0, hi, hz0, hz1, hz2⟩ := info_parts infoS
  have hgw := h.lt
  have hBg := h.above
  go_enter Try.func62, Try.ntmps62
  go_wp2_with fail
  obtain ⟨D, HD⟩ : ∃ D, Hid (w.heap.size = D) := ⟨_, Lib.hid rfl⟩
  have hgD : g < D := by rw [← HD.out]; exact hgw
  unfold GotTwo
  have s1 : (w.alloc (.cells #[] 9)).heap.size = w.heap.size + 1 := by simp
  have o1 : OStrs w.heap.size (w.alloc (.cells #[] 9)) (.slice (some ⟨w.heap.size, 0, none⟩) 0 0) [] := World.ownsRow_made _ _ _ (Nat.le_refl _) (by unfold maxLen; omega) rfl
  have o2 : OStrs w.heap.size ((w.alloc (.cells #[] 9)).alloc (.cells #[] 9)) (.slice (some ⟨(w.alloc (.cells #[] 9)).heap.size, 0, none⟩) 0 0) [] := World.ownsRow_made _ _ _ (by omega) (by unfold maxLen; omega) rfl
  have o1 := OStrs.below o1 (Nat.le_refl _) ((Below.refl _ _).alloc (Nat.le_refl _) (.cells #[] 9))
  have hbl : Below w.heap.size w ((w.alloc (.cells #[] 9)).alloc (.cells #[] 9)) := ((Below.refl _ _).alloc (Nat.le_refl _) _).alloc (by omega) _
  have s2 : ((w.alloc (.cells #[] 9)).alloc (.cells #[] 9)).heap.size = w.heap.size + 1 + 1 := by simp
  rw [s1] at o2
  have HQ : Hid (Two D 0 0 ((w.alloc (.cells #[] 9)).alloc (.cells #[] 9)) (.slice (some ⟨w.heap.size, 0, none⟩) 0 0) (.slice (some ⟨w.heap.size + 1, 0, none⟩) 0 0) [] []) := Lib.hid ⟨by rw [← HD.out]; exact o1, by rw [← HD.out]; exact o2, fun g k h1 h2 => by simp [Value.ownBlock] at h1 h2; omega, Nat.le_refl _, Nat.le_refl _, few_nil _, few_nil _⟩
  have hR0 : Rdr B g n c p ao ((w.alloc (.cells #[] 9)).alloc (.cells #[] 9)) := h.below (C := w.heap.size) (by omega) hgw hbl
  have HG0 : Hid (w.grownBy ((w.alloc (.cells #[] 9)).alloc (.cells #[] 9)) (some g)) := Lib.hid (grown_of_below hbl)
  obtain ⟨w0, HW0⟩ : ∃ u, Hid ((w.alloc (.cells #[] 9)).alloc (.cells #[] 9) = u) := ⟨_, Lib.hid rfl⟩
  rw [HW0.out] at hR0 HQ HG0 s2 ⊢
  clear o1 o2 hbl s1 h
  have hD0 : D ≤ w0.heap.size := by rw [s2, HD.out]; omega
  try rw [← s2]
  refine (one_lit 0 8 7 _ rfl (by omega) (by omega) ?_ B g n c p ao _ hR0 (by omega)).mono ?_
  · simp [okInts]
  rintro e w1 ⟨x, rfl, hx0, hx8, p1, hp1, hR1, hg1⟩
  obtain ⟨x, rfl⟩ := Int.eq_ofNat_of_zero_le hx0
  have HQ1 := Lib.hid (HQ.out.read hg1 hgD)
  have HG1 := Lib.hid (grown_tr HG0.out hg1)
  have HR1 := Lib.hid hR1
  have hD1 : D ≤ w1.heap.size := Nat.le_trans hD0 hg1.size
  clear hg1 HQ HG0 hR0 hD0 hR1
  go_wp2_with fail
  go_loopw [4, 5, 6] (fun va vb nv wr => RdTwo D p B g n c ao w va vb nv wr) (fun _ _ nv _ => (intOf nv).toNat)
  case atStart => exact ⟨x, [], [], p1, by omega, rfl, Lib.hid (HQ1.out.mono (Nat.zero_le _) (Nat.zero_le _)), by omega, HR1, HG1, hD1⟩
  case round =>
    clear HQ1 HG1 HR1 hD1
    obtain ⟨j, A, Bl, p', hj, rfl, HQ, hp', HR, HG, hD⟩ := hrel
    by_cases h0 : 0 < j
    · have h0i : (0 : Int) < (j : Int) := by omega
      go_wp2_with fail
      refine (of_lit 20 5 _ rfl (by omega) (by omega) ?_ B g n c _ ao _ HR.out (by omega)).mono ?_
      · simp [okStrs, ByteArray.size_mk']
      rintro e w11 ⟨s11, rfl, hs11, p11, hp11, hR11, hg11⟩
      replace HQ := Lib.hid (HQ.out.read hg11 hgD)
      replace HG := Lib.hid (grown_tr HG.out hg11)
      replace hD : D ≤ w11.heap.size := Nat.le_trans hD hg11.size
      replace HR := Lib.hid hR11
      clear hg11 hR11
      go_wp2_with fail
      refine (pick_any 4 B g n c _ ao _ HR.out (by omega) (by omega)).mono ?_
      rintro e w12 ⟨r12, rfl, hr12, hx12, hR12, hg12⟩
      replace HQ := Lib.hid (HQ.out.read hg12 hgD)
      replace HG := Lib.hid (grown_tr HG.out hg12)
      replace hD : D ≤ w12.heap.size := Nat.le_trans hD hg12.size
      replace HR := Lib.hid hR12
      clear hg12 hR12
      by_cases c12 : 0 < r12
      · skip
        have hsm := HQ.out.small (by omega) (by omega)
        go_wp2_with (at_builtin; refine wpList_append_own_at _ rfl _ _ 23 rfl D 9 i0 (.string ByteArray.empty) 1 16 Try.underlying23 hi hz0 hz1 hz2 rfl (by decide) _ _ _ rfl (World.ownsRow.alloc HQ.out.1 _) ⟨w12.heap.size, 0, none⟩ 1 1 [.string s11] rfl rfl (cell_one_new _ _ _) (by intro u hu; simp at hu; subst hu; rfl) (by unfold maxLen; omega) (by omega) (by simp; omega) ?_)
        intro v13 w13 hown hgrow _ hat
        have hbE : Below D w12 w13 := ((Below.refl _ _).alloc hD _).grown hgrow (by simp; omega) (fun k hk => (World.ownsRow.lt HQ.out.1 k hk).1)
        obtain ⟨l13, HQ13⟩ := HQ.out.pushA hs11 (OStrs.push1 hown) hgrow hat
        clear HQ
        have HQ := HQ13
        clear HQ13
        replace HG := Lib.hid (grown_then HG.out (hbE.mono (Nat.le_of_eq HD.out)))
        replace HR := Lib.hid (HR.out.below (C := D) (by omega) hgD hbE)
        replace hD : D ≤ w13.heap.size := Nat.le_trans hD hbE.size
        clear hown hgrow hat hbE hsm
        go_wp2_with fail
        refine (pick_any 4 B g n c _ ao _ HR.out (by omega) (by omega)).mono ?_
        rintro e w14 ⟨r14, rfl, hr14, hx14, hR14, hg14⟩
        replace HQ := Lib.hid (HQ.out.read hg14 hgD)
        replace HG := Lib.hid (grown_tr HG.out hg14)
        replace hD : D ≤ w14.heap.size := Nat.le_trans hD hg14.size
        replace HR := Lib.hid hR14
        clear hg14 hR14
        by_cases c14 : 0 < r14
        · skip
          have hsm := HQ.out.small (by omega) (by omega)
          go_wp2_with (at_builtin; refine wpList_append_own_at _ rfl _ _ 23 rfl D 9 i0 (.string ByteArray.empty) 1 16 Try.underlying23 hi hz0 hz1 hz2 rfl (by decide) _ _ _ rfl (World.ownsRow.alloc HQ.out.2.1 _) ⟨w14.heap.size, 0, none⟩ 1 1 [.string s11] rfl rfl (cell_one_new _ _ _) (by intro u hu; simp at hu; subst hu; rfl) (by unfold maxLen; omega) (by omega) (by simp; omega) ?_)
          intro v15 w15 hown hgrow _ hat
          have hbE : Below D w14 w15 := ((Below.refl _ _).alloc hD _).grown hgrow (by simp; omega) (fun k hk => (World.ownsRow.lt HQ.out.2.1 k hk).1)
          obtain ⟨l15, HQ15⟩ := HQ.out.pushB hs11 (OStrs.push1 hown) hgrow hat
          clear HQ
          have HQ := HQ15
          clear HQ15
          replace HG := Lib.hid (grown_then HG.out (hbE.mono (Nat.le_of_eq HD.out)))
          replace HR := Lib.hid (HR.out.below (C := D) (by omega) hgD hbE)
          replace hD : D ≤ w15.heap.size := Nat.le_trans hD hbE.size
          clear hown hgrow hat hbE hsm
          go_wp2_with fail
          refine (pick_any 6 B g n c _ ao _ HR.out (by omega) (by omega)).mono ?_
          rintro e w16 ⟨r16, rfl, hr16, hx16, hR16, hg16⟩
          replace HQ := Lib.hid (HQ.out.read hg16 hgD)
          replace HG := Lib.hid (grown_tr HG.out hg16)
          replace hD : D ≤ w16.heap.size := Nat.le_trans hD hg16.size
          replace HR := Lib.hid hR16
          clear hg16 hR16
          by_cases c16 : r16 = 0
          · subst c16
            go_wp2_with fail
            refine (of_lit 20 3 _ rfl (by omega) (by omega) ?_ B g n c _ ao _ HR.out (by omega)).mono ?_
            · simp [okStrs, ByteArray.size_mk']
            rintro e w17 ⟨s17, rfl, hs17, p17, hp17, hR17, hg17⟩
            replace HQ := Lib.hid (HQ.out.read hg17 hgD)
            replace HG := Lib.hid (grown_tr HG.out hg17)
            replace hD : D ≤ w17.heap.size := Nat.le_trans hD hg17.size
            replace HR := Lib.hid hR17
            clear hg17 hR17
            have hsm := HQ.out.small (by omega) (by omega)
            go_wp2_with (at_builtin; refine wpList_append_own_at _ rfl _ _ 23 rfl D 9 i0 (.string ByteArray.empty) 1 16 Try.underlying23 hi hz0 hz1 hz2 rfl (by decide) _ _ _ rfl (World.ownsRow.alloc HQ.out.2.1 _) ⟨w17.heap.size, 0, none⟩ 1 1 [.string s17] rfl rfl (cell_one_new _ _ _) (by intro u hu; simp at hu; subst hu; rfl) (by unfold maxLen; omega) (by omega) (by simp; omega) ?_)
            intro v18 w18 hown hgrow _ hat
            have hbE : Below D w17 w18 := ((Below.refl _ _).alloc hD _).grown hgrow (by simp; omega) (fun k hk => (World.ownsRow.lt HQ.out.2.1 k hk).1)
            obtain ⟨l18, HQ18⟩ := HQ.out.pushB hs17 (OStrs.push1 hown) hgrow hat
            clear HQ
            have HQ := HQ18
            clear HQ18
            replace HG := Lib.hid (grown_then HG.out (hbE.mono (Nat.le_of_eq HD.out)))
            replace HR := Lib.hid (HR.out.below (C := D) (by omega) hgD hbE)
            replace hD : D ≤ w18.heap.size := Nat.le_trans hD hbE.size
            clear hown hgrow hat hbE hsm
            go_wp2
            go_roundw
            case rel => exact ⟨j - 1, _, _, _, by omega, by go_num, Lib.hid (HQ.out.mono (by omega) (by omega)), by omega, HR, HG, hD⟩
            case measure => simp [intOf]; omega
          · have c16' : (r16 == 0) = false := by simp [c16]
            go_wp2
            go_roundw
            case rel => exact ⟨j - 1, _, _, _, by omega, by go_num, Lib.hid (HQ.out.mono (by omega) (by omega)), by omega, HR, HG, hD⟩
            case measure => simp [intOf]; omega
        · skip
          go_wp2_with fail
          refine (pick_any 6 B g n c _ ao _ HR.out (by omega) (by omega)).mono ?_
          rintro e w19 ⟨r19, rfl, hr19, hx19, hR19, hg19⟩
          replace HQ := Lib.hid (HQ.out.read hg19 hgD)
          replace HG := Lib.hid (grown_tr HG.out hg19)
          replace hD : D ≤ w19.heap.size := Nat.le_trans hD hg19.size
          replace HR := Lib.hid hR19
          clear hg19 hR19
          by_cases c19 : r19 = 0
          · subst c19
            go_wp2_with fail
            refine (of_lit 20 3 _ rfl (by omega) (by omega) ?_ B g n c _ ao _ HR.out (by omega)).mono ?_
            · simp [okStrs, ByteArray.size_mk']
            rintro e w20 ⟨s20, rfl, hs20, p20, hp20, hR20, hg20⟩
            replace HQ := Lib.hid (HQ.out.read hg20 hgD)
            replace HG := Lib.hid (grown_tr HG.out hg20)
            replace hD : D ≤ w20.heap.size := Nat.le_trans hD hg20.size
            replace HR := Lib.hid hR20
            clear hg20 hR20
            have hsm := HQ.out.small (by omega) (by omega)
            go_wp2_with (at_builtin; refine wpList_append_own_at _ rfl _ _ 23 rfl D 9 i0 (.string ByteArray.empty) 1 16 Try.underlying23 hi hz0 hz1 hz2 rfl (by decide) _ _ _ rfl (World.ownsRow.alloc HQ.out.2.1 _) ⟨w20.heap.size, 0, none⟩ 1 1 [.string s20] rfl rfl (cell_one_new _ _ _) (by intro u hu; simp at hu; subst hu; rfl) (by unfold maxLen; omega) (by omega) (by simp; omega) ?_)
            intro v21 w21 hown hgrow _ hat
            have hbE : Below D w20 w21 := ((Below.refl _ _).alloc hD _).grown hgrow (by simp; omega) (fun k hk => (World.ownsRow.lt HQ.out.2.1 k hk).1)
            obtain ⟨l21, HQ21⟩ := HQ.out.pushB hs20 (OStrs.push1 hown) hgrow hat
            clear HQ
            have HQ := HQ21
            clear HQ21
            replace HG := Lib.hid (grown_then HG.out (hbE.mono (Nat.le_of_eq HD.out)))
            replace HR := Lib.hid (HR.out.below (C := D) (by omega) hgD hbE)
            replace hD : D ≤ w21.heap.size := Nat.le_trans hD hbE.size
            clear hown hgrow hat hbE hsm
            go_wp2
            go_roundw
            case rel => exact ⟨j - 1, _, _, _, by omega, by go_num, Lib.hid (HQ.out.mono (by omega) (by omega)), by omega, HR, HG, hD⟩
            case measure => simp [intOf]; omega
          · have c19' : (r19 == 0) = false := by simp [c19]
            go_wp2
            go_roundw
            case rel => exact ⟨j - 1, _, _, _, by omega, by go_num, Lib.hid (HQ.out.mono (by omega) (by omega)), by omega, HR, HG, hD⟩
            case measure => simp [intOf]; omega
      · skip
        go_wp2_with fail
        refine (pick_any 4 B g n c _ ao _ HR.out (by omega) (by omega)).mono ?_
        rintro e w22 ⟨r22, rfl, hr22, hx22, hR22, hg22⟩
        replace HQ := Lib.hid (HQ.out.read hg22 hgD)
        replace HG := Lib.hid (grown_tr HG.out hg22)
        replace hD : D ≤ w22.heap.size := Nat.le_trans hD hg22.size
        replace HR := Lib.hid hR22
        clear hg22 hR22
        by_cases c22 : 0 < r22
        · skip
          have hsm := HQ.out.small (by omega) (by omega)
          go_wp2_with (at_builtin; refine wpList_append_own_at _ rfl _ _ 23 rfl D 9 i0 (.string ByteArray.empty) 1 16 Try.underlying23 hi hz0 hz1 hz2 rfl (by decide) _ _ _ rfl (World.ownsRow.alloc HQ.out.2.1 _) ⟨w22.heap.size, 0, none⟩ 1 1 [.string s11] rfl rfl (cell_one_new _ _ _) (by intro u hu; simp at hu; subst hu; rfl) (by unfold maxLen; omega) (by omega) (by simp; omega) ?_)
          intro v23 w23 hown hgrow _ hat
          have hbE : Below D w22 w23 := ((Below.refl _ _).alloc hD _).grown hgrow (by simp; omega) (fun k hk => (World.ownsRow.lt HQ.out.2.1 k hk).1)
          obtain ⟨l23, HQ23⟩ := HQ.out.pushB hs11 (OStrs.push1 hown) hgrow hat
          clear HQ
          have HQ := HQ23
          clear HQ23
          replace HG := Lib.hid (grown_then HG.out (hbE.mono (Nat.le_of_eq HD.out)))
          replace HR := Lib.hid (HR.out.below (C := D) (by omega) hgD hbE)
          replace hD : D ≤ w23.heap.size := Nat.le_trans hD hbE.size
          clear hown hgrow hat hbE hsm
          go_wp2_with fail
          refine (pick_any 6 B g n c _ ao _ HR.out (by omega) (by omega)).mono ?_
          rintro e w24 ⟨r24, rfl, hr24, hx24, hR24, hg24⟩
          replace HQ := Lib.hid (HQ.out.read hg24 hgD)
          replace HG := Lib.hid (grown_tr HG.out hg24)
          replace hD : D ≤ w24.heap.size := Nat.le_trans hD hg24.size
          replace HR := Lib.hid hR24
          clear hg24 hR24
          by_cases c24 : r24 = 0
          · subst c24
            go_wp2_with fail
            refine (of_lit 20 3 _ rfl (by omega) (by omega) ?_ B g n c _ ao _ HR.out (by omega)).mono ?_
            · simp [okStrs, ByteArray.size_mk']
            rintro e w25 ⟨s25, rfl, hs25, p25, hp25, hR25, hg25⟩
            replace HQ := Lib.hid (HQ.out.read hg25 hgD)
            replace HG := Lib.hid (grown_tr HG.out hg25)
            replace hD : D ≤ w25.heap.size := Nat.le_trans hD hg25.size
            replace HR := Lib.hid hR25
            clear hg25 hR25
            have hsm := HQ.out.small (by omega) (by omega)
            go_wp2_with (at_builtin; refine wpList_append_own_at _ rfl _ _ 23 rfl D 9 i0 (.string ByteArray.empty) 1 16 Try.underlying23 hi hz0 hz1 hz2 rfl (by decide) _ _ _ rfl (World.ownsRow.alloc HQ.out.2.1 _) ⟨w25.heap.size, 0, none⟩ 1 1 [.string s25] rfl rfl (cell_one_new _ _ _) (by intro u hu; simp at hu; subst hu; rfl) (by unfold maxLen; omega) (by omega) (by simp; omega) ?_)
            intro v26 w26 hown hgrow _ hat
            have hbE : Below D w25 w26 := ((Below.refl _ _).alloc hD _).grown hgrow (by simp; omega) (fun k hk => (World.ownsRow.lt HQ.out.2.1 k hk).1)
            obtain ⟨l26, HQ26⟩ := HQ.out.pushB hs25 (OStrs.push1 hown) hgrow hat
            clear HQ
            have HQ := HQ26
            clear HQ26
            replace HG := Lib.hid (grown_then HG.out (hbE.mono (Nat.le_of_eq HD.out)))
            replace HR := Lib.hid (HR.out.below (C := D) (by omega) hgD hbE)
            replace hD : D ≤ w26.heap.size := Nat.le_trans hD hbE.size
            clear hown hgrow hat hbE hsm
            go_wp2
            go_roundw
            case rel => exact ⟨j - 1, _, _, _, by omega, by go_num, Lib.hid (HQ.out.mono (by omega) (by omega)), by omega, HR, HG, hD⟩
            case measure => simp [intOf]; omega
          · have c24' : (r24 == 0) = false := by simp [c24]
            go_wp2
            go_roundw
            case rel => exact ⟨j - 1, _, _, _, by omega, by go_num, Lib.hid (HQ.out.mono (by omega) (by omega)), by omega, HR, HG, hD⟩
            case measure => simp [intOf]; omega
        · skip
          go_wp2_with fail
          refine (pick_any 6 B g n c _ ao _ HR.out (by omega) (by omega)).mono ?_
          rintro e w27 ⟨r27, rfl, hr27, hx27, hR27, hg27⟩
          replace HQ := Lib.hid (HQ.out.read hg27 hgD)
          replace HG := Lib.hid (grown_tr HG.out hg27)
          replace hD : D ≤ w27.heap.size := Nat.le_trans hD hg27.size
          replace HR := Lib.hid hR27
          clear hg27 hR27
          by_cases c27 : r27 = 0
          · subst c27
            go_wp2_with fail
            refine (of_lit 20 3 _ rfl (by omega) (by omega) ?_ B g n c _ ao _ HR.out (by omega)).mono ?_
            · simp [okStrs, ByteArray.size_mk']
            rintro e w28 ⟨s28, rfl, hs28, p28, hp28, hR28, hg28⟩
            replace HQ := Lib.hid (HQ.out.read hg28 hgD)
            replace HG := Lib.hid (grown_tr HG.out hg28)
            replace hD : D ≤ w28.heap.size := Nat.le_trans hD hg28.size
            replace HR := Lib.hid hR28
            clear hg28 hR28
            have hsm := HQ.out.small (by omega) (by omega)
            go_wp2_with (at_builtin; refine wpList_append_own_at _ rfl _ _ 23 rfl D 9 i0 (.string ByteArray.empty) 1 16 Try.underlying23 hi hz0 hz1 hz2 rfl (by decide) _ _ _ rfl (World.ownsRow.alloc HQ.out.2.1 _) ⟨w28.heap.size, 0, none⟩ 1 1 [.string s28] rfl rfl (cell_one_new _ _ _) (by intro u hu; simp at hu; subst hu; rfl) (by unfold maxLen; omega) (by omega) (by simp; omega) ?_)
            intro v29 w29 hown hgrow _ hat
            have hbE : Below D w28 w29 := ((Below.refl _ _).alloc hD _).grown hgrow (by simp; omega) (fun k hk => (World.ownsRow.lt HQ.out.2.1 k hk).1)
            obtain ⟨l29, HQ29⟩ := HQ.out.pushB hs28 (OStrs.push1 hown) hgrow hat
            clear HQ
            have HQ := HQ29
            clear HQ29
            replace HG := Lib.hid (grown_then HG.out (hbE.mono (Nat.le_of_eq HD.out)))
            replace HR := Lib.hid (HR.out.below (C := D) (by omega) hgD hbE)
            replace hD : D ≤ w29.heap.size := Nat.le_trans hD hbE.size
            clear hown hgrow hat hbE hsm
            go_wp2
            go_roundw
            case rel => exact ⟨j - 1, _, _, _, by omega, by go_num, Lib.hid (HQ.out.mono (by omega) (by omega)), by omega, HR, HG, hD⟩
            case measure => simp [intOf]; omega
          · have c27' : (r27 == 0) = false := by simp [c27]
            go_wp2
            go_roundw
            case rel => exact ⟨j - 1, _, _, _, by omega, by go_num, Lib.hid (HQ.out.mono (by omega) (by omega)), by omega, HR, HG, hD⟩
            case measure => simp [intOf]; omega
    · obtain rfl : j = 0 := by omega
      go_wp2_with fail
      refine (pick_any 30 B g n c _ ao _ HR.out (by omega) (by omega)).mono ?_
      rintro e w30 ⟨r30, rfl, hr30, hx30, hR30, hg30⟩
      replace HQ := Lib.hid (HQ.out.read hg30 hgD)
      replace HG := Lib.hid (grown_tr HG.out hg30)
      replace hD : D ≤ w30.heap.size := Nat.le_trans hD hg30.size
      replace HR := Lib.hid hR30
      clear hg30 hR30
      by_cases c30 : r30 = 0
      · subst c30
        have hsm := HQ.out.small (by omega) (by omega)
        go_wp2_with (at_builtin; refine wpList_append_own_at _ rfl _ _ 23 rfl D 9 i0 (.string ByteArray.empty) 1 16 Try.underlying23 hi hz0 hz1 hz2 rfl (by decide) _ _ _ rfl (World.ownsRow.alloc HQ.out.2.1 _) ⟨w30.heap.size, 0, none⟩ 1 1 [.string ⟨#[9]⟩] rfl rfl (cell_one_new _ _ _) (by intro u hu; simp at hu; subst hu; rfl) (by unfold maxLen; omega) (by omega) (by simp; omega) ?_)
        intro v31 w31 hown hgrow _ hat
        have hbE : Below D w30 w31 := ((Below.refl _ _).alloc hD _).grown hgrow (by simp; omega) (fun k hk => (World.ownsRow.lt HQ.out.2.1 k hk).1)
        obtain ⟨l31, HQ31⟩ := HQ.out.pushB (by show 1 ≤ _; omega) (OStrs.push1 hown) hgrow hat
        clear HQ
        have HQ := HQ31
        clear HQ31
        replace HG := Lib.hid (grown_then HG.out (hbE.mono (Nat.le_of_eq HD.out)))
        replace HR := Lib.hid (HR.out.below (C := D) (by omega) hgD hbE)
        replace hD : D ≤ w31.heap.size := Nat.le_trans hD hbE.size
        clear hown hgrow hat hbE hsm
        go_wp2_with fail
        go_ret2
        exact ⟨_, _, _, _, rfl, by rw [HD.out]; exact HQ.out.mono (by omega) (by omega), _, by omega, HR.out, HG.out⟩
      · have c30' : (r30 == 0) = false := by simp [c30]
        go_wp2_with fail
        go_ret2
        exact ⟨_, _, _, _, rfl, by rw [HD.out]; exact HQ.out.mono (by omega) (by omega), _, by omega, HR.out, HG.out⟩

theorem dCommonOf_any (a : Option Addr) (len cap : Nat) (zs : List Int) (w : World) (hr : IsRow .u8 w a len cap zs) :
    Calls Try.prog 22 #[.slice a len cap] w fun e w' => ∃ va vb A Bl, e = .returned (.tuple #[va, vb]) ∧ Two w.heap.size 8 17 w' va vb A Bl ∧ Below w.heap.size w w' := by
  go_enter Try.func22, Try.ntmps22
  go_wp2_with fail
  refine (newReader_any a len cap zs _ hr).mono ?_
  rintro e w1 ⟨n, c, rfl, hR, hb1⟩
  go_wp2_with fail
  refine (twoTexts_any _ _ n c 0 a _ hR (by omega)).mono ?_
  rintro e w2 ⟨va, vb, A, Bl, rfl, hq, p2, _, _, hg⟩
  have HB := Lib.hid (hb1.grown hg hb1.size (fun k hk => by cases hk; exact Nat.le_refl _))
  have HQ : Hid (Two w.heap.size 8 17 w2 va vb A Bl) := Lib.hid ⟨hq.1.mono hb1.size, hq.2.1.mono hb1.size, hq.2.2⟩
  clear hb1 hg hR hq
  go_wp2_with fail
  go_ret2
  exact ⟨va, vb, A, Bl, rfl, HQ.out, HB.out⟩
end Go.Proofs.Ytckfpneooknifaa
