/- The walk of FnValidRows. -/
import Derived.Test.YtgfpbnafehpopaaDrawTb
import Derived.Test.YtgfpbnafehpopaaTbV
namespace Go.Proofs.Ytgfpbnafehpopaa
open Go.RowKit
set_option maxRecDepth 100000
set_option linter.unusedVariables false

theorem RPs.pre {w : World} {b o n cap k : Nat} {ps : pl.Gs} (h : RPs w (.slice (some ⟨b, o, none⟩) n cap) ps) (hn : n = ps.length) (hk : k ≤ n) : RPs w (.slice (some ⟨b, o, none⟩) k cap) (ps.take k) := by
  have hl : (ps.take k).length = k := by rw [List.length_take]; omega
  by_cases h0 : k = 0
  · subst h0; exact .inl ⟨by simp, _, _, rfl⟩
  · rcases h with ⟨hz, _⟩ | ⟨hp, b1, o1, c1, hv, hlt, hc⟩
    · rw [hz] at hn; simp at hn; omega
    · simp only [Value.slice.injEq, Option.some.injEq, Addr.mk.injEq, and_true] at hv
      obtain ⟨⟨rfl, rfl⟩, _, rfl⟩ := hv
      refine .inr ⟨by omega, b, o, cap, by rw [hl], hlt, fun i hi => ?_⟩
      rw [hl] at hi
      obtain ⟨u, h1, h2⟩ := hc i (by omega)
      refine ⟨u, h1, ?_⟩
      have : pl.nthP (ps.take k) i = pl.nthP ps i := by rw [pl.nthP_eq (by omega), pl.nthP_eq (by omega), List.getElem_take]
      rw [this]; exact h2
theorem Small.take {ps : pl.Gs} (h : Small ps) (k : Nat) : Small (ps.take k) := by
  have hl : (ps.take k).length ≤ ps.length := by rw [List.length_take]; omega
  have hn : ∀ i, i < (ps.take k).length → pl.nthP (ps.take k) i = pl.nthP ps i := fun i hi => by rw [pl.nthP_eq hi, pl.nthP_eq (by omega), List.getElem_take]
  exact ⟨by have := h.len; omega, fun i hi => by rw [hn i hi]; exact h.rows i (by omega), fun i hi j hj => by rw [hn i hi] at hj ⊢; exact h.size i (by omega) j hj⟩
theorem hps_cap {B : Nat} {w : World} {v : Value} {ps : pl.Gs} (h : HPs B w v ps) (h0 : 0 < ps.length) : ∃ b cap, v = .slice (some ⟨b, 0, none⟩) ps.length cap ∧ ps.length ≤ cap ∧ cap ≤ maxLen := by
  obtain ⟨us, ho⟩ := h
  have hl := ho.2.len
  rcases ho.1.2 with ⟨hv, hz⟩ | ⟨g, cap, cur, hv, hB, hg, hle, hm, _⟩
  · omega
  · exact ⟨g, cap, by rw [hv, hl], by omega, hm⟩

set_option maxHeartbeats 4000000 in
theorem fnValidRows_walk (a : Option Addr) (len cap : Nat) (zs : List Int) (w : World) (hr : IsRow .u8 w a len cap zs) :
    Calls Try.prog 4 #[.slice a len cap] w fun e w' => e = .returned (.bool true) ∧ Below w.heap.size w w' := by
  have hlen := row_len hr
  by_cases hb : 1048576 < len
  · go_enter Try.func4, Try.ntmps4
    go_wp2
    go_ret
    exact ⟨rfl, Below.refl _ _⟩
  · go_enter Try.func4, Try.ntmps4
    go_wp2_with fail
    refine (dValidRows_any a len cap zs _ hr).mono ?_
    rintro e w1 ⟨v, ps, rfl, ho, hl, hf, hb1⟩
    have HO1 := Lib.hid ho
    have HB1 := Lib.hid hb1
    have HS := Lib.hid (hf.small (by omega) (by omega))
    have HL := Lib.hid hl
    clear ho hb1 hf hl
    go_wp2_with fail
    refine (iValidRows_any ps v _ HO1.out.reads HS.out).mono ?_
    rintro e w2 ⟨rfl, hb2⟩
    have HO2 := Lib.hid (HO1.out.below (Nat.le_refl _) hb2)
    have HB2 := Lib.hid (HB1.out.trans (hb2.mono HB1.out.size))
    clear hb2
    go_wp2_with fail
    refine (sValidRows_any ps v _ HO2.out.reads HS.out).mono ?_
    rintro e w3 ⟨rfl, hb3⟩
    have HO3 := Lib.hid (HO2.out.below (Nat.le_refl _) hb3)
    have HB3 := Lib.hid (HB2.out.trans (hb3.mono HB2.out.size))
    clear hb3
    cases hv : pl.vRows ps with
    | false =>
      have HV := Lib.hid hv
      clear hv
      go_wp2_with fail
      refine (sValidRows_any ps v _ HO3.out.reads HS.out).mono ?_
      rintro e w4 ⟨rfl, hb4⟩
      rw [HV.out]
      have HB4 := Lib.hid (HB3.out.trans (hb4.mono HB3.out.size))
      clear hb4
      go_wp2_with fail
      go_ret
      exact ⟨rfl, HB4.out⟩
    | true =>
      have HV := Lib.hid hv
      clear hv
      by_cases h0 : ps.length = 0
      · obtain ⟨b, c, hv⟩ := HO3.out.reads.slice
        rw [h0] at hv
        subst hv
        clear h0
        go_wp2_with fail
        go_ret
        exact ⟨rfl, HB3.out⟩
      · obtain ⟨b, c, hv, hnc, hcm⟩ := hps_cap HO3.out (by omega)
        obtain ⟨k, hk⟩ : ∃ k, ps.length = k + 1 := ⟨ps.length - 1, by omega⟩
        have HK := Lib.hid hk
        unfold maxLen at hcm
        rw [hk] at hv hnc
        subst hv
        have hk7 : k + 1 ≤ 7 := by have := HL.out; omega
        have hne : (((k : Int) + 1) == 0) = false := beq_eq_false_iff_ne.2 (by omega)
        have hne2 : (((k + 1 : Nat) : Int) == 0) = false := beq_eq_false_iff_ne.2 (by omega)
        have hkc : k ≤ c := by omega
        have HR := Lib.hid (HO3.out.reads.pre (by rw [HK.out]) (show k ≤ k + 1 by omega))
        have HVT := Lib.hid (pl.vRows_dropLast (n := k) HV.out HK.out.symm)
        clear h0 hk
        go_wp2_with fail
        refine (iValidRows_any (ps.take k) _ _ HR.out (HS.out.take k)).mono ?_
        rintro e w4 ⟨rfl, hb4⟩
        rw [HVT.out]
        have HB4 := Lib.hid (HB3.out.trans (hb4.mono HB3.out.size))
        clear hb4
        go_wp2_with fail
        go_ret
        exact ⟨rfl, HB4.out⟩
end Go.Proofs.Ytgfpbnafehpopaa
