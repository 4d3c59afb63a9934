/- Contract: someFills. -/
import Derived.Test.YtadlelcckalcoaaOFi
import Derived.Test.YtadlelcckalcoaaSomeFo
import Derived.Test.YtadlelcckalcoaaDrawS
import Derived.Test.YtadlelcckalcoaaPieces
namespace Go.Proofs.Ytadlelcckalcoaa
open Go.RowKit
set_option maxRecDepth 100000
set_option linter.unusedVariables false

/-- fills with short names and values -/
def FewF (fl : List pl.Pc) : Prop := ∀ i, i < fl.length → (pl.nthQ fl i).1.size ≤ 8 ∧ (pl.nthQ fl i).2.size ≤ 8
theorem FewF.nil : FewF [] := fun i h => by simp at h
theorem FewF.push {fl : List pl.Pc} {a s : ByteArray} (h : FewF fl) (ha : a.size ≤ 8) (hs : s.size ≤ 8) : FewF (fl ++ [(a, s)]) := by
  intro i hi
  by_cases e : i < fl.length
  · rw [pl.nthQ_eq hi, List.getElem_append_left e, ← pl.nthQ_eq e]; exact h i e
  · have e2 : i = fl.length := by simp at hi; omega
    subst e2
    rw [pl.nthQ_eq hi, List.getElem_append_right (Nat.le_refl _)]; simp [ha, hs]
theorem fills_len {fl : List pl.Pc} {a s : ByteArray} {k : Nat} (h : fl.length ≤ k) : (fl ++ [(a, s)]).length ≤ k + 1 := by
  rw [List.length_append, List.length_singleton]; omega
def GotFills (q B g n c : Nat) (ao : Option Addr) (w : World) (e : Ending) (w' : World) : Prop :=
  ∃ v fl, e = .returned v ∧ OFi w.heap.size w' v fl ∧ fl.length ≤ 4 ∧ FewF fl ∧ ∃ p', p' ≤ q ∧ Rdr B g n c p' ao w' ∧ w.grownBy w' (some g)

set_option maxHeartbeats 16000000 in
theorem someFills_any (B g n c p : Nat) (ao : Option Addr) (w : World) (h : Rdr B g n c p ao w) (hp : p ≤ 900000) :
    Calls Try.prog 57 #[.pointer (some ⟨g, 0, none⟩)] w (GotFills (p + 6) B g n c ao w) := by
  obtain ⟨i0, hi, hz0, hz1, hz2⟩ := info_parts infoFi2
  have hgw := h.lt
  have hBg := h.above
  go_enter Try.func57, Try.ntmps57
  go_wp2_with fail
  refine (of_lit 8 6 _ rfl (by omega) (by omega) ?_ B g n c p ao _ h (by omega)).mono ?_
  · simp [okStrs, ByteArray.size_mk']
  rintro e w1 ⟨s1, rfl, hs1, p1, hp1, hR1, hg1⟩
  unfold GotFills
  obtain ⟨D, HD⟩ : ∃ D, Hid (w.heap.size = D) := ⟨_, Lib.hid rfl⟩
  have hgD : g < D := by rw [← HD.out]; exact hgw
  have hD1 : D ≤ w1.heap.size := by rw [← HD.out]; exact hg1.size
  have HQ : Hid (OFi D (w1.alloc (.cells #[.string ⟨#[97]⟩, .string s1] 87)) (.slice (some ⟨w1.heap.size, 0, none⟩) 1 1) [(⟨#[97]⟩, s1)]) := Lib.hid ⟨rfl, .inr ⟨_, 1, _, rfl, hD1, heap_alloc_new _ _, Nat.le_refl _, by unfold maxLen; omega, rfl, rfl⟩⟩
  have HG : Hid (w.grownBy (w1.alloc (.cells #[.string ⟨#[97]⟩, .string s1] 87)) (some g)) := Lib.hid (grown_tr hg1 (grown_al _ _))
  have hR : Rdr B g n c p1 ao (w1.alloc (.cells #[.string ⟨#[97]⟩, .string s1] 87)) := hR1.below (C := w1.heap.size) (by omega) hR1.lt ((Below.refl _ _).alloc (Nat.le_refl _) _)
  have hDw : D ≤ (w1.alloc (.cells #[.string ⟨#[97]⟩, .string s1] 87)).heap.size := by simp; omega
  have HL : Hid ([((⟨#[97]⟩ : ByteArray), s1)].length ≤ 1) := Lib.hid (Nat.le_refl _)
  have HF : Hid (FewF [(⟨#[97]⟩, s1)]) := Lib.hid (FewF.push FewF.nil (by decide) hs1)
  rw [HD.out]
  obtain ⟨fl0, HFL0⟩ : ∃ fl, Hid ([((⟨#[97]⟩ : ByteArray), s1)] = fl) := ⟨_, Lib.hid rfl⟩
  rw [HFL0.out] at HQ HL HF
  clear hR1 hg1 h hgw hD1 HFL0
  go_wp2_with fail
  refine (pick_any 3 B g n c _ ao _ hR (by omega) (by omega)).mono ?_
  rintro e w2 ⟨r2, rfl, hr2, hx2, hR2, hg2⟩
  replace HQ := Lib.hid (HQ.out.read hg2 hgD)
  replace HG := Lib.hid (grown_tr HG.out hg2)
  replace hDw : D ≤ w2.heap.size := Nat.le_trans hDw hg2.size
  replace hR := hR2
  clear hg2
  by_cases ha : 0 < r2
  · skip
    go_wp2_with fail
    refine (of_lit 8 4 _ rfl (by omega) (by omega) ?_ B g n c _ ao _ hR (by omega)).mono ?_
    · simp [okStrs, ByteArray.size_mk']
    rintro e w3 ⟨s3, rfl, hs3, p3, hp3, hR3, hg3⟩
    replace HQ := Lib.hid (HQ.out.read hg3 hgD)
    replace HG := Lib.hid (grown_tr HG.out hg3)
    replace hDw : D ≤ w3.heap.size := Nat.le_trans hDw hg3.size
    replace hR := hR3
    clear hg3
    go_wp2_with (at_builtin; refine wpList_append_own _ rfl _ _ 38 rfl D 87 i0 (.agg #[.string ByteArray.empty, .string ByteArray.empty]) 2 32 Try.underlying38 hi hz0 hz1 hz2 rfl (by decide) _ _ _ rfl (World.ownsRow.alloc HQ.out _) ⟨w3.heap.size, 0, none⟩ 1 1 [.string ⟨#[110, 97, 109, 101]⟩, .string s3] rfl rfl (fun k u hu => by have h := cell_two_new w3 (.string ⟨#[110, 97, 109, 101]⟩) (.string s3) 87 k u hu; simpa using h) (by intro u hu; simp at hu; rcases hu with h | h <;> subst h <;> rfl) (by have := HL.out; unfold maxLen; omega) (by have := HL.out; omega) (by simp; omega) ?_)
    intro va4 wa4 howna4 hgrowa4 _
    have hbE : Below D w3 wa4 := ((Below.refl _ _).alloc hDw _).grown hgrowa4 (by simp; omega) (fun k hk => (World.ownsRow.lt HQ.out k hk).1)
    replace HG := Lib.hid (grown_then HG.out (hbE.mono (Nat.le_of_eq HD.out)))
    replace hR := hR.below (C := D) (by omega) hgD hbE
    replace hDw : D ≤ wa4.heap.size := Nat.le_trans hDw hbE.size
    obtain ⟨fl4, HQ4, HL4, HF4⟩ : ∃ fl, Hid (OFi D wa4 va4 fl) ∧ Hid (fl.length ≤ 2) ∧ Hid (FewF fl) := ⟨_, Lib.hid (OFi.push howna4), Lib.hid (fills_len HL.out), Lib.hid (FewF.push HF.out (by decide) (by omega))⟩
    clear HQ HL HF; have HQ := HQ4; have HL := HL4; have HF := HF4; clear HQ4 HL4 HF4
    clear howna4 hgrowa4 hbE
    go_wp2_with fail
    refine (pick_any 2 B g n c _ ao _ hR (by omega) (by omega)).mono ?_
    rintro e w5 ⟨r5, rfl, hr5, hx5, hR5, hg5⟩
    replace HQ := Lib.hid (HQ.out.read hg5 hgD)
    replace HG := Lib.hid (grown_tr HG.out hg5)
    replace hDw : D ≤ w5.heap.size := Nat.le_trans hDw hg5.size
    replace hR := hR5
    clear hg5
    by_cases hb : r5 = 0
    · subst hb
      go_wp2_with fail
      refine (of_lit 8 3 _ rfl (by omega) (by omega) ?_ B g n c _ ao _ hR (by omega)).mono ?_
      · simp [okStrs, ByteArray.size_mk']
      rintro e w6 ⟨s6, rfl, hs6, p6, hp6, hR6, hg6⟩
      replace HQ := Lib.hid (HQ.out.read hg6 hgD)
      replace HG := Lib.hid (grown_tr HG.out hg6)
      replace hDw : D ≤ w6.heap.size := Nat.le_trans hDw hg6.size
      replace hR := hR6
      clear hg6
      go_wp2_with (at_builtin; refine wpList_append_own _ rfl _ _ 38 rfl D 87 i0 (.agg #[.string ByteArray.empty, .string ByteArray.empty]) 2 32 Try.underlying38 hi hz0 hz1 hz2 rfl (by decide) _ _ _ rfl (World.ownsRow.alloc HQ.out _) ⟨w6.heap.size, 0, none⟩ 1 1 [.string ⟨#[98]⟩, .string s6] rfl rfl (fun k u hu => by have h := cell_two_new w6 (.string ⟨#[98]⟩) (.string s6) 87 k u hu; simpa using h) (by intro u hu; simp at hu; rcases hu with h | h <;> subst h <;> rfl) (by have := HL.out; unfold maxLen; omega) (by have := HL.out; omega) (by simp; omega) ?_)
      intro va7 wa7 howna7 hgrowa7 _
      have hbE : Below D w6 wa7 := ((Below.refl _ _).alloc hDw _).grown hgrowa7 (by simp; omega) (fun k hk => (World.ownsRow.lt HQ.out k hk).1)
      replace HG := Lib.hid (grown_then HG.out (hbE.mono (Nat.le_of_eq HD.out)))
      replace hR := hR.below (C := D) (by omega) hgD hbE
      replace hDw : D ≤ wa7.heap.size := Nat.le_trans hDw hbE.size
      obtain ⟨fl7, HQ7, HL7, HF7⟩ : ∃ fl, Hid (OFi D wa7 va7 fl) ∧ Hid (fl.length ≤ 3) ∧ Hid (FewF fl) := ⟨_, Lib.hid (OFi.push howna7), Lib.hid (fills_len HL.out), Lib.hid (FewF.push HF.out (by decide) (by omega))⟩
      clear HQ HL HF; have HQ := HQ7; have HL := HL7; have HF := HF7; clear HQ7 HL7 HF7
      clear howna7 hgrowa7 hbE
      go_wp2_with fail
      refine (pick_any 24 B g n c _ ao _ hR (by omega) (by omega)).mono ?_
      rintro e w8 ⟨r8, rfl, hr8, hx8, hR8, hg8⟩
      replace HQ := Lib.hid (HQ.out.read hg8 hgD)
      replace HG := Lib.hid (grown_tr HG.out hg8)
      replace hDw : D ≤ w8.heap.size := Nat.le_trans hDw hg8.size
      replace hR := hR8
      clear hg8
      by_cases h0 : r8 = 0
      · subst h0
        go_wp2_with (at_builtin; refine wpList_append_own _ rfl _ _ 38 rfl D 87 i0 (.agg #[.string ByteArray.empty, .string ByteArray.empty]) 2 32 Try.underlying38 hi hz0 hz1 hz2 rfl (by decide) _ _ _ rfl (World.ownsRow.alloc HQ.out _) ⟨w8.heap.size, 0, none⟩ 1 1 [.string ⟨#[97]⟩, .string ⟨#[]⟩] rfl rfl (fun k u hu => by have h := cell_two_new w8 (.string ⟨#[97]⟩) (.string ⟨#[]⟩) 87 k u hu; simpa using h) (by intro u hu; simp at hu; rcases hu with h | h <;> subst h <;> rfl) (by have := HL.out; unfold maxLen; omega) (by have := HL.out; omega) (by simp; omega) ?_)
        intro va9 wa9 howna9 hgrowa9 _
        have hbE : Below D w8 wa9 := ((Below.refl _ _).alloc hDw _).grown hgrowa9 (by simp; omega) (fun k hk => (World.ownsRow.lt HQ.out k hk).1)
        replace HG := Lib.hid (grown_then HG.out (hbE.mono (Nat.le_of_eq HD.out)))
        replace hR := hR.below (C := D) (by omega) hgD hbE
        replace hDw : D ≤ wa9.heap.size := Nat.le_trans hDw hbE.size
        obtain ⟨fl9, HQ9, HL9, HF9⟩ : ∃ fl, Hid (OFi D wa9 va9 fl) ∧ Hid (fl.length ≤ 4) ∧ Hid (FewF fl) := ⟨_, Lib.hid (OFi.push howna9), Lib.hid (fills_len HL.out), Lib.hid (FewF.push HF.out (by decide) (by decide))⟩
        clear HQ HL HF; have HQ := HQ9; have HL := HL9; have HF := HF9; clear HQ9 HL9 HF9
        clear howna9 hgrowa9 hbE
        go_wp2_with fail
        go_ret
        exact ⟨_, _, rfl, by rw [HD.out]; exact HQ.out, by have := HL.out; omega, HF.out, _, by omega, hR, HG.out⟩
      have h0' : (r8 == 0) = false := by simp [h0]
      by_cases h1 : r8 = 1
      · subst h1
        go_wp2_with (at_builtin; refine wpList_append_own _ rfl _ _ 38 rfl D 87 i0 (.agg #[.string ByteArray.empty, .string ByteArray.empty]) 2 32 Try.underlying38 hi hz0 hz1 hz2 rfl (by decide) _ _ _ rfl (World.ownsRow.alloc HQ.out _) ⟨w8.heap.size, 0, none⟩ 1 1 [.string ⟨#[65]⟩, .string ⟨#[]⟩] rfl rfl (fun k u hu => by have h := cell_two_new w8 (.string ⟨#[65]⟩) (.string ⟨#[]⟩) 87 k u hu; simpa using h) (by intro u hu; simp at hu; rcases hu with h | h <;> subst h <;> rfl) (by have := HL.out; unfold maxLen; omega) (by have := HL.out; omega) (by simp; omega) ?_)
        intro va10 wa10 howna10 hgrowa10 _
        have hbE : Below D w8 wa10 := ((Below.refl _ _).alloc hDw _).grown hgrowa10 (by simp; omega) (fun k hk => (World.ownsRow.lt HQ.out k hk).1)
        replace HG := Lib.hid (grown_then HG.out (hbE.mono (Nat.le_of_eq HD.out)))
        replace hR := hR.below (C := D) (by omega) hgD hbE
        replace hDw : D ≤ wa10.heap.size := Nat.le_trans hDw hbE.size
        obtain ⟨fl10, HQ10, HL10, HF10⟩ : ∃ fl, Hid (OFi D wa10 va10 fl) ∧ Hid (fl.length ≤ 4) ∧ Hid (FewF fl) := ⟨_, Lib.hid (OFi.push howna10), Lib.hid (fills_len HL.out), Lib.hid (FewF.push HF.out (by decide) (by decide))⟩
        clear HQ HL HF; have HQ := HQ10; have HL := HL10; have HF := HF10; clear HQ10 HL10 HF10
        clear howna10 hgrowa10 hbE
        go_wp2_with fail
        go_ret
        exact ⟨_, _, rfl, by rw [HD.out]; exact HQ.out, by have := HL.out; omega, HF.out, _, by omega, hR, HG.out⟩
      have h1' : (r8 == 1) = false := by simp [h1]
      by_cases h2 : r8 = 2
      · subst h2
        go_wp2_with fail
        go_ret
        exact ⟨_, [], rfl, by rw [HD.out]; exact OFi.made hDw, by simp, FewF.nil, _, by omega, hR.below (C := w8.heap.size) (by omega) hR.lt ((Below.refl _ _).alloc (Nat.le_refl _) _), grown_tr HG.out (grown_al _ _)⟩
      have h2' : (r8 == 2) = false := by simp [h2]
      go_wp2_with fail
      go_ret
      exact ⟨_, _, rfl, by rw [HD.out]; exact HQ.out, by have := HL.out; omega, HF.out, _, by omega, hR, HG.out⟩
    · have hb' : (r5 == 0) = false := by simp [hb]
      go_wp2_with fail
      refine (pick_any 24 B g n c _ ao _ hR (by omega) (by omega)).mono ?_
      rintro e w11 ⟨r11, rfl, hr11, hx11, hR11, hg11⟩
      replace HQ := Lib.hid (HQ.out.read hg11 hgD)
      replace HG := Lib.hid (grown_tr HG.out hg11)
      replace hDw : D ≤ w11.heap.size := Nat.le_trans hDw hg11.size
      replace hR := hR11
      clear hg11
      by_cases h0 : r11 = 0
      · subst h0
        go_wp2_with (at_builtin; refine wpList_append_own _ rfl _ _ 38 rfl D 87 i0 (.agg #[.string ByteArray.empty, .string ByteArray.empty]) 2 32 Try.underlying38 hi hz0 hz1 hz2 rfl (by decide) _ _ _ rfl (World.ownsRow.alloc HQ.out _) ⟨w11.heap.size, 0, none⟩ 1 1 [.string ⟨#[97]⟩, .string ⟨#[]⟩] rfl rfl (fun k u hu => by have h := cell_two_new w11 (.string ⟨#[97]⟩) (.string ⟨#[]⟩) 87 k u hu; simpa using h) (by intro u hu; simp at hu; rcases hu with h | h <;> subst h <;> rfl) (by have := HL.out; unfold maxLen; omega) (by have := HL.out; omega) (by simp; omega) ?_)
        intro va12 wa12 howna12 hgrowa12 _
        have hbE : Below D w11 wa12 := ((Below.refl _ _).alloc hDw _).grown hgrowa12 (by simp; omega) (fun k hk => (World.ownsRow.lt HQ.out k hk).1)
        replace HG := Lib.hid (grown_then HG.out (hbE.mono (Nat.le_of_eq HD.out)))
        replace hR := hR.below (C := D) (by omega) hgD hbE
        replace hDw : D ≤ wa12.heap.size := Nat.le_trans hDw hbE.size
        obtain ⟨fl12, HQ12, HL12, HF12⟩ : ∃ fl, Hid (OFi D wa12 va12 fl) ∧ Hid (fl.length ≤ 3) ∧ Hid (FewF fl) := ⟨_, Lib.hid (OFi.push howna12), Lib.hid (fills_len HL.out), Lib.hid (FewF.push HF.out (by decide) (by decide))⟩
        clear HQ HL HF; have HQ := HQ12; have HL := HL12; have HF := HF12; clear HQ12 HL12 HF12
        clear howna12 hgrowa12 hbE
        go_wp2_with fail
        go_ret
        exact ⟨_, _, rfl, by rw [HD.out]; exact HQ.out, by have := HL.out; omega, HF.out, _, by omega, hR, HG.out⟩
      have h0' : (r11 == 0) = false := by simp [h0]
      by_cases h1 : r11 = 1
      · subst h1
        go_wp2_with (at_builtin; refine wpList_append_own _ rfl _ _ 38 rfl D 87 i0 (.agg #[.string ByteArray.empty, .string ByteArray.empty]) 2 32 Try.underlying38 hi hz0 hz1 hz2 rfl (by decide) _ _ _ rfl (World.ownsRow.alloc HQ.out _) ⟨w11.heap.size, 0, none⟩ 1 1 [.string ⟨#[65]⟩, .string ⟨#[]⟩] rfl rfl (fun k u hu => by have h := cell_two_new w11 (.string ⟨#[65]⟩) (.string ⟨#[]⟩) 87 k u hu; simpa using h) (by intro u hu; simp at hu; rcases hu with h | h <;> subst h <;> rfl) (by have := HL.out; unfold maxLen; omega) (by have := HL.out; omega) (by simp; omega) ?_)
        intro va13 wa13 howna13 hgrowa13 _
        have hbE : Below D w11 wa13 := ((Below.refl _ _).alloc hDw _).grown hgrowa13 (by simp; omega) (fun k hk => (World.ownsRow.lt HQ.out k hk).1)
        replace HG := Lib.hid (grown_then HG.out (hbE.mono (Nat.le_of_eq HD.out)))
        replace hR := hR.below (C := D) (by omega) hgD hbE
        replace hDw : D ≤ wa13.heap.size := Nat.le_trans hDw hbE.size
        obtain ⟨fl13, HQ13, HL13, HF13⟩ : ∃ fl, Hid (OFi D wa13 va13 fl) ∧ Hid (fl.length ≤ 3) ∧ Hid (FewF fl) := ⟨_, Lib.hid (OFi.push howna13), Lib.hid (fills_len HL.out), Lib.hid (FewF.push HF.out (by decide) (by decide))⟩
        clear HQ HL HF; have HQ := HQ13; have HL := HL13; have HF := HF13; clear HQ13 HL13 HF13
        clear howna13 hgrowa13 hbE
        go_wp2_with fail
        go_ret
        exact ⟨_, _, rfl, by rw [HD.out]; exact HQ.out, by have := HL.out; omega, HF.out, _, by omega, hR, HG.out⟩
      have h1' : (r11 == 1) = false := by simp [h1]
      by_cases h2 : r11 = 2
      · subst h2
        go_wp2_with fail
        go_ret
        exact ⟨_, [], rfl, by rw [HD.out]; exact OFi.made hDw, by simp, FewF.nil, _, by omega, hR.below (C := w11.heap.size) (by omega) hR.lt ((Below.refl _ _).alloc (Nat.le_refl _) _), grown_tr HG.out (grown_al _ _)⟩
      have h2' : (r11 == 2) = false := by simp [h2]
      go_wp2_with fail
      go_ret
      exact ⟨_, _, rfl, by rw [HD.out]; exact HQ.out, by have := HL.out; omega, HF.out, _, by omega, hR, HG.out⟩
  · skip
    go_wp2_with fail
    refine (pick_any 2 B g n c _ ao _ hR (by omega) (by omega)).mono ?_
    rintro e w14 ⟨r14, rfl, hr14, hx14, hR14, hg14⟩
    replace HQ := Lib.hid (HQ.out.read hg14 hgD)
    replace HG := Lib.hid (grown_tr HG.out hg14)
    replace hDw : D ≤ w14.heap.size := Nat.le_trans hDw hg14.size
    replace hR := hR14
    clear hg14
    by_cases hb : r14 = 0
    · subst hb
      go_wp2_with fail
      refine (of_lit 8 3 _ rfl (by omega) (by omega) ?_ B g n c _ ao _ hR (by omega)).mono ?_
      · simp [okStrs, ByteArray.size_mk']
      rintro e w15 ⟨s15, rfl, hs15, p15, hp15, hR15, hg15⟩
      replace HQ := Lib.hid (HQ.out.read hg15 hgD)
      replace HG := Lib.hid (grown_tr HG.out hg15)
      replace hDw : D ≤ w15.heap.size := Nat.le_trans hDw hg15.size
      replace hR := hR15
      clear hg15
      go_wp2_with (at_builtin; refine wpList_append_own _ rfl _ _ 38 rfl D 87 i0 (.agg #[.string ByteArray.empty, .string ByteArray.empty]) 2 32 Try.underlying38 hi hz0 hz1 hz2 rfl (by decide) _ _ _ rfl (World.ownsRow.alloc HQ.out _) ⟨w15.heap.size, 0, none⟩ 1 1 [.string ⟨#[98]⟩, .string s15] rfl rfl (fun k u hu => by have h := cell_two_new w15 (.string ⟨#[98]⟩) (.string s15) 87 k u hu; simpa using h) (by intro u hu; simp at hu; rcases hu with h | h <;> subst h <;> rfl) (by have := HL.out; unfold maxLen; omega) (by have := HL.out; omega) (by simp; omega) ?_)
      intro va16 wa16 howna16 hgrowa16 _
      have hbE : Below D w15 wa16 := ((Below.refl _ _).alloc hDw _).grown hgrowa16 (by simp; omega) (fun k hk => (World.ownsRow.lt HQ.out k hk).1)
      replace HG := Lib.hid (grown_then HG.out (hbE.mono (Nat.le_of_eq HD.out)))
      replace hR := hR.below (C := D) (by omega) hgD hbE
      replace hDw : D ≤ wa16.heap.size := Nat.le_trans hDw hbE.size
      obtain ⟨fl16, HQ16, HL16, HF16⟩ : ∃ fl, Hid (OFi D wa16 va16 fl) ∧ Hid (fl.length ≤ 2) ∧ Hid (FewF fl) := ⟨_, Lib.hid (OFi.push howna16), Lib.hid (fills_len HL.out), Lib.hid (FewF.push HF.out (by decide) (by omega))⟩
      clear HQ HL HF; have HQ := HQ16; have HL := HL16; have HF := HF16; clear HQ16 HL16 HF16
      clear howna16 hgrowa16 hbE
      go_wp2_with fail
      refine (pick_any 24 B g n c _ ao _ hR (by omega) (by omega)).mono ?_
      rintro e w17 ⟨r17, rfl, hr17, hx17, hR17, hg17⟩
      replace HQ := Lib.hid (HQ.out.read hg17 hgD)
      replace HG := Lib.hid (grown_tr HG.out hg17)
      replace hDw : D ≤ w17.heap.size := Nat.le_trans hDw hg17.size
      replace hR := hR17
      clear hg17
      by_cases h0 : r17 = 0
      · subst h0
        go_wp2_with (at_builtin; refine wpList_append_own _ rfl _ _ 38 rfl D 87 i0 (.agg #[.string ByteArray.empty, .string ByteArray.empty]) 2 32 Try.underlying38 hi hz0 hz1 hz2 rfl (by decide) _ _ _ rfl (World.ownsRow.alloc HQ.out _) ⟨w17.heap.size, 0, none⟩ 1 1 [.string ⟨#[97]⟩, .string ⟨#[]⟩] rfl rfl (fun k u hu => by have h := cell_two_new w17 (.string ⟨#[97]⟩) (.string ⟨#[]⟩) 87 k u hu; simpa using h) (by intro u hu; simp at hu; rcases hu with h | h <;> subst h <;> rfl) (by have := HL.out; unfold maxLen; omega) (by have := HL.out; omega) (by simp; omega) ?_)
        intro va18 wa18 howna18 hgrowa18 _
        have hbE : Below D w17 wa18 := ((Below.refl _ _).alloc hDw _).grown hgrowa18 (by simp; omega) (fun k hk => (World.ownsRow.lt HQ.out k hk).1)
        replace HG := Lib.hid (grown_then HG.out (hbE.mono (Nat.le_of_eq HD.out)))
        replace hR := hR.below (C := D) (by omega) hgD hbE
        replace hDw : D ≤ wa18.heap.size := Nat.le_trans hDw hbE.size
        obtain ⟨fl18, HQ18, HL18, HF18⟩ : ∃ fl, Hid (OFi D wa18 va18 fl) ∧ Hid (fl.length ≤ 3) ∧ Hid (FewF fl) := ⟨_, Lib.hid (OFi.push howna18), Lib.hid (fills_len HL.out), Lib.hid (FewF.push HF.out (by decide) (by decide))⟩
        clear HQ HL HF; have HQ := HQ18; have HL := HL18; have HF := HF18; clear HQ18 HL18 HF18
        clear howna18 hgrowa18 hbE
        go_wp2_with fail
        go_ret
        exact ⟨_, _, rfl, by rw [HD.out]; exact HQ.out, by have := HL.out; omega, HF.out, _, by omega, hR, HG.out⟩
      have h0' : (r17 == 0) = false := by simp [h0]
      by_cases h1 : r17 = 1
      · subst h1
        go_wp2_with (at_builtin; refine wpList_append_own _ rfl _ _ 38 rfl D 87 i0 (.agg #[.string ByteArray.empty, .string ByteArray.empty]) 2 32 Try.underlying38 hi hz0 hz1 hz2 rfl (by decide) _ _ _ rfl (World.ownsRow.alloc HQ.out _) ⟨w17.heap.size, 0, none⟩ 1 1 [.string ⟨#[65]⟩, .string ⟨#[]⟩] rfl rfl (fun k u hu => by have h := cell_two_new w17 (.string ⟨#[65]⟩) (.string ⟨#[]⟩) 87 k u hu; simpa using h) (by intro u hu; simp at hu; rcases hu with h | h <;> subst h <;> rfl) (by have := HL.out; unfold maxLen; omega) (by have := HL.out; omega) (by simp; omega) ?_)
        intro va19 wa19 howna19 hgrowa19 _
        have hbE : Below D w17 wa19 := ((Below.refl _ _).alloc hDw _).grown hgrowa19 (by simp; omega) (fun k hk => (World.ownsRow.lt HQ.out k hk).1)
        replace HG := Lib.hid (grown_then HG.out (hbE.mono (Nat.le_of_eq HD.out)))
        replace hR := hR.below (C := D) (by omega) hgD hbE
        replace hDw : D ≤ wa19.heap.size := Nat.le_trans hDw hbE.size
        obtain ⟨fl19, HQ19, HL19, HF19⟩ : ∃ fl, Hid (OFi D wa19 va19 fl) ∧ Hid (fl.length ≤ 3) ∧ Hid (FewF fl) := ⟨_, Lib.hid (OFi.push howna19), Lib.hid (fills_len HL.out), Lib.hid (FewF.push HF.out (by decide) (by decide))⟩
        clear HQ HL HF; have HQ := HQ19; have HL := HL19; have HF := HF19; clear HQ19 HL19 HF19
        clear howna19 hgrowa19 hbE
        go_wp2_with fail
        go_ret
        exact ⟨_, _, rfl, by rw [HD.out]; exact HQ.out, by have := HL.out; omega, HF.out, _, by omega, hR, HG.out⟩
      have h1' : (r17 == 1) = false := by simp [h1]
      by_cases h2 : r17 = 2
      · subst h2
        go_wp2_with fail
        go_ret
        exact ⟨_, [], rfl, by rw [HD.out]; exact OFi.made hDw, by simp, FewF.nil, _, by omega, hR.below (C := w17.heap.size) (by omega) hR.lt ((Below.refl _ _).alloc (Nat.le_refl _) _), grown_tr HG.out (grown_al _ _)⟩
      have h2' : (r17 == 2) = false := by simp [h2]
      go_wp2_with fail
      go_ret
      exact ⟨_, _, rfl, by rw [HD.out]; exact HQ.out, by have := HL.out; omega, HF.out, _, by omega, hR, HG.out⟩
    · have hb' : (r14 == 0) = false := by simp [hb]
      go_wp2_with fail
      refine (pick_any 24 B g n c _ ao _ hR (by omega) (by omega)).mono ?_
      rintro e w20 ⟨r20, rfl, hr20, hx20, hR20, hg20⟩
      replace HQ := Lib.hid (HQ.out.read hg20 hgD)
      replace HG := Lib.hid (grown_tr HG.out hg20)
      replace hDw : D ≤ w20.heap.size := Nat.le_trans hDw hg20.size
      replace hR := hR20
      clear hg20
      by_cases h0 : r20 = 0
      · subst h0
        go_wp2_with (at_builtin; refine wpList_append_own _ rfl _ _ 38 rfl D 87 i0 (.agg #[.string ByteArray.empty, .string ByteArray.empty]) 2 32 Try.underlying38 hi hz0 hz1 hz2 rfl (by decide) _ _ _ rfl (World.ownsRow.alloc HQ.out _) ⟨w20.heap.size, 0, none⟩ 1 1 [.string ⟨#[97]⟩, .string ⟨#[]⟩] rfl rfl (fun k u hu => by have h := cell_two_new w20 (.string ⟨#[97]⟩) (.string ⟨#[]⟩) 87 k u hu; simpa using h) (by intro u hu; simp at hu; rcases hu with h | h <;> subst h <;> rfl) (by have := HL.out; unfold maxLen; omega) (by have := HL.out; omega) (by simp; omega) ?_)
        intro va21 wa21 howna21 hgrowa21 _
        have hbE : Below D w20 wa21 := ((Below.refl _ _).alloc hDw _).grown hgrowa21 (by simp; omega) (fun k hk => (World.ownsRow.lt HQ.out k hk).1)
        replace HG := Lib.hid (grown_then HG.out (hbE.mono (Nat.le_of_eq HD.out)))
        replace hR := hR.below (C := D) (by omega) hgD hbE
        replace hDw : D ≤ wa21.heap.size := Nat.le_trans hDw hbE.size
        obtain ⟨fl21, HQ21, HL21, HF21⟩ : ∃ fl, Hid (OFi D wa21 va21 fl) ∧ Hid (fl.length ≤ 2) ∧ Hid (FewF fl) := ⟨_, Lib.hid (OFi.push howna21), Lib.hid (fills_len HL.out), Lib.hid (FewF.push HF.out (by decide) (by decide))⟩
        clear HQ HL HF; have HQ := HQ21; have HL := HL21; have HF := HF21; clear HQ21 HL21 HF21
        clear howna21 hgrowa21 hbE
        go_wp2_with fail
        go_ret
        exact ⟨_, _, rfl, by rw [HD.out]; exact HQ.out, by have := HL.out; omega, HF.out, _, by omega, hR, HG.out⟩
      have h0' : (r20 == 0) = false := by simp [h0]
      by_cases h1 : r20 = 1
      · subst h1
        go_wp2_with (at_builtin; refine wpList_append_own _ rfl _ _ 38 rfl D 87 i0 (.agg #[.string ByteArray.empty, .string ByteArray.empty]) 2 32 Try.underlying38 hi hz0 hz1 hz2 rfl (by decide) _ _ _ rfl (World.ownsRow.alloc HQ.out _) ⟨w20.heap.size, 0, none⟩ 1 1 [.string ⟨#[65]⟩, .string ⟨#[]⟩] rfl rfl (fun k u hu => by have h := cell_two_new w20 (.string ⟨#[65]⟩) (.string ⟨#[]⟩) 87 k u hu; simpa using h) (by intro u hu; simp at hu; rcases hu with h | h <;> subst h <;> rfl) (by have := HL.out; unfold maxLen; omega) (by have := HL.out; omega) (by simp; omega) ?_)
        intro va22 wa22 howna22 hgrowa22 _
        have hbE : Below D w20 wa22 := ((Below.refl _ _).alloc hDw _).grown hgrowa22 (by simp; omega) (fun k hk => (World.ownsRow.lt HQ.out k hk).1)
        replace HG := Lib.hid (grown_then HG.out (hbE.mono (Nat.le_of_eq HD.out)))
        replace hR := hR.below (C := D) (by omega) hgD hbE
        replace hDw : D ≤ wa22.heap.size := Nat.le_trans hDw hbE.size
        obtain ⟨fl22, HQ22, HL22, HF22⟩ : ∃ fl, Hid (OFi D wa22 va22 fl) ∧ Hid (fl.length ≤ 2) ∧ Hid (FewF fl) := ⟨_, Lib.hid (OFi.push howna22), Lib.hid (fills_len HL.out), Lib.hid (FewF.push HF.out (by decide) (by decide))⟩
        clear HQ HL HF; have HQ := HQ22; have HL := HL22; have HF := HF22; clear HQ22 HL22 HF22
        clear howna22 hgrowa22 hbE
        go_wp2_with fail
        go_ret
        exact ⟨_, _, rfl, by rw [HD.out]; exact HQ.out, by have := HL.out; omega, HF.out, _, by omega, hR, HG.out⟩
      have h1' : (r20 == 1) = false := by simp [h1]
      by_cases h2 : r20 = 2
      · subst h2
        go_wp2_with fail
        go_ret
        exact ⟨_, [], rfl, by rw [HD.out]; exact OFi.made hDw, by simp, FewF.nil, _, by omega, hR.below (C := w20.heap.size) (by omega) hR.lt ((Below.refl _ _).alloc (Nat.le_refl _) _), grown_tr HG.out (grown_al _ _)⟩
      have h2' : (r20 == 2) = false := by simp [h2]
      go_wp2_with fail
      go_ret
      exact ⟨_, _, rfl, by rw [HD.out]; exact HQ.out, by have := HL.out; omega, HF.out, _, by omega, hR, HG.out⟩

end Go.Proofs.Ytadlelcckalcoaa
