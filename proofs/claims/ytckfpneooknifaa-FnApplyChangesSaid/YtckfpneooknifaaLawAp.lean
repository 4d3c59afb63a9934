/- The walk of FnApplyChanges. -/
import Derived.Test.YtckfpneooknifaaDrawCh
import Derived.Test.YtckfpneooknifaaTurnC
import Derived.Test.YtckfpneooknifaaApC
import Derived.Test.YtckfpneooknifaaEq
namespace Go.Proofs.Ytckfpneooknifaa
open Go.RowKit
set_option maxRecDepth 100000
set_option linter.unusedVariables false

namespace pl
theorem backR_shortA {cs : List Ch} (h : ShortC cs) : ∀ i, i < (backR cs).length → (nthH (backR cs) i).2.size ≤ maxLen := by
  unfold backR
  split
  · intro i hi
    rw [List.length_map] at hi
    rw [nthH_eq (by rw [List.length_map]; exact hi), List.getElem_map]
    have := h i hi
    rw [nthH_eq hi] at this
    show (cs[i]).2.size ≤ maxLen
    unfold maxLen; omega
  · intro i hi; simp at hi
theorem ShortC.maxA {cs : List Ch} (h : ShortC cs) : ∀ i, i < cs.length → (nthH cs i).2.size ≤ maxLen := fun i hi => by have := h i hi; unfold maxLen; omega
theorem app_mem : ∀ (cs : List Ch) (a o : List ByteArray), app a cs = some o → ∀ x ∈ o, ∃ c ∈ cs, c.2 = x
  | [], a, o, h, x, hx => by
    cases a with
    | nil => rw [app_end] at h; injection h with h; subst h; cases hx
    | cons y a => rw [app_left (by simp)] at h; cases h
  | (k, l) :: cs, a, o, h, x, hx => by
    have put : ∀ (a' : List ByteArray) (o : List ByteArray), (app a' cs).map (l :: ·) = some o → x ∈ o → ∃ c ∈ (k, l) :: cs, c.2 = x := by
      intro a' o h hx
      obtain ⟨o', h1, h2⟩ := Option.map_eq_some_iff.1 h
      subst h2
      rcases List.mem_cons.1 hx with rfl | hx
      · exact ⟨_, List.mem_cons_self .., rfl⟩
      · obtain ⟨c, hc, e⟩ := app_mem cs a' o' h1 x hx
        exact ⟨c, List.mem_cons_of_mem _ hc, e⟩
    by_cases h2 : k = 2
    · subst h2; rw [app_add] at h; exact put _ _ h hx
    · cases a with
      | nil => rw [app_none h2] at h; cases h
      | cons y a =>
        by_cases e : y = l
        · subst e
          by_cases h1 : k = 1
          · subst h1
            rw [app_drop] at h
            obtain ⟨c, hc, e⟩ := app_mem cs a o h x hx
            exact ⟨c, List.mem_cons_of_mem _ hc, e⟩
          · rw [app_keep h2 h1] at h; exact put _ _ h hx
        · rw [app_wrong h2 e] at h; cases h
theorem app_valid {a o : List ByteArray} {cs : List Ch} (h : app a cs = some o) (hc : vCh cs = true) (hl : o.length ≤ 20) : validLs o = true := by
  unfold validLs
  rw [Bool.and_eq_true]
  refine ⟨List.all_eq_true.2 fun x hx => ?_, decide_eq_true hl⟩
  obtain ⟨c, hm, rfl⟩ := app_mem cs a o h x hx
  unfold vCh at hc
  rw [Bool.and_eq_true, List.all_eq_true] at hc
  exact (chOK_parts (hc.1 c hm)).2.2
/-- the changes are taken back -/
theorem app_back {a : List ByteArray} {cs : List Ch} (h : appG a cs = true) : appG (appD a cs) (backR cs) = true ∧ appD (appD a cs) (backR cs) = a ∧ validLs (appD a cs) = true := by
  unfold appG at h
  obtain ⟨o, ho⟩ := Option.isSome_iff_exists.1 h
  obtain ⟨h1, h2, h3, h4⟩ := appR_parts ho
  have e : appD a cs = o := (appD_some ho).1
  rw [e]
  have hv : validLs o = true := app_valid h3 h2 h4
  have hb : appR o (backR cs) = some a := by
    rw [backR_yes h2]
    exact appR_some hv (by rw [vCh_turn]; exact h2) (app_turn h3) (validLs_len h1)
  obtain ⟨k1, k2⟩ := appD_some hb
  exact ⟨k2, k1, hv⟩
end pl
theorem equalTexts_ap (l l2 : List ByteArray) (he : l = l2) (va vb : Value) (w : World) (hA : RStrs w va l) (hB : RStrs w vb l2) (hl : l.length ≤ 2000000) :
    Calls Try.prog 19 #[va, vb] w fun e w' => e = .returned (.bool true) ∧ Below w.heap.size w w' :=
  (equalTexts_any l l2 va vb w hA hB hl).mono fun e w' ⟨h1, h2⟩ => ⟨by rw [h1]; simp [he], h2⟩

set_option maxHeartbeats 4000000 in
theorem fnApplyChanges_walk (a : Option Addr) (len cap : Nat) (zs : List Int) (w : World) (hr : IsRow .u8 w a len cap zs) :
    Calls Try.prog 5 #[.slice a len cap] w fun e w' => e = .returned (.bool true) ∧ Below w.heap.size w w' := by
  have hlen := row_len hr
  by_cases hb : 1048576 < len
  · go_enter Try.func5, Try.ntmps5
    go_wp2
    go_ret
    exact ⟨rfl, Below.refl _ _⟩
  · go_enter Try.func5, Try.ntmps5
    go_wp2_with fail
    refine (dApplyChanges_any a len cap zs _ hr).mono ?_
    rintro e w1 ⟨va, v, A, cs, rfl, hq, hrc, qla, qfa, qlc, qs, hb1⟩
    have HA := Lib.hid hq.lreads
    have HC := Lib.hid hrc
    have HB := Lib.hid hb1
    have HS := Lib.hid qs
    have HLA : Hid (A.length ≤ 8) := Lib.hid qla
    have HLC : Hid (cs.length ≤ maxLen) := Lib.hid (by unfold maxLen; omega)
    have HLM : Hid (A.length ≤ maxLen) := Lib.hid (by unfold maxLen; omega)
    have HZA : Hid (∀ i, i < A.length → (nth A i).size ≤ maxLen) := Lib.hid (fun i hi => by have := qfa i hi; unfold maxLen; omega)
    clear hq hrc hb1 qs qla qfa qlc
    obtain ⟨D, HD⟩ : ∃ D, Hid (pl.appD A cs = D) := ⟨_, Lib.hid rfl⟩
    have HDL : Hid (D.length ≤ 20) := Lib.hid (by rw [← HD.out]; exact pl.appD_len A cs)
    obtain ⟨G, HG⟩ : ∃ G, Hid (pl.appG A cs = G) := ⟨_, Lib.hid rfl⟩
    go_wp2_with fail
    refine (iApplyChanges_any A cs va v _ HA.out HC.out HLM.out HZA.out HS.out.maxA).mono ?_
    rintro e w2 ⟨u, rfl, ho, hb2⟩
    rw [HG.out]
    rw [HD.out] at ho
    have HU := Lib.hid ho.lreads
    have HA2 := Lib.hid (HA.out.below (Nat.le_refl _) hb2)
    have HC2 := Lib.hid (HC.out.below (Nat.le_refl _) hb2)
    have HB2 := Lib.hid (HB.out.trans (hb2.mono HB.out.size))
    clear ho hb2
    go_wp2_with fail
    refine (sApplyChanges_any A cs va v _ HA2.out.1 HC2.out HLM.out HZA.out HLC.out HS.out.maxA).mono ?_
    rintro e w3 ⟨x, rfl, ho, hb3⟩
    rw [HG.out]
    rw [HD.out] at ho
    have HX := Lib.hid ho.reads
    have HU3 := Lib.hid (HU.out.below (Nat.le_refl _) hb3)
    have HA3 := Lib.hid (HA2.out.below (Nat.le_refl _) hb3)
    have HC3 := Lib.hid (HC2.out.below (Nat.le_refl _) hb3)
    have HB3 := Lib.hid (HB2.out.trans (hb3.mono HB2.out.size))
    clear ho hb3
    cases hgv : G with
    | false =>
      clear hgv
      go_wp2_with fail
      refine (equalTexts_ap D D rfl _ _ _ HU3.out.1 HX.out (by have := HDL.out; omega)).mono ?_
      rintro e w4 ⟨rfl, hb4⟩
      have HU4 := Lib.hid (HU3.out.below (Nat.le_refl _) hb4)
      have HX4 := Lib.hid (HX.out.below (Nat.le_refl _) hb4)
      have HB4 := Lib.hid (HB3.out.trans (hb4.mono HB3.out.size))
      clear hb4
      go_wp2_with fail
      refine (equalTexts_ap D D rfl _ _ _ HU4.out.1 HX4.out (by have := HDL.out; omega)).mono ?_
      rintro e w5 ⟨rfl, hb5⟩
      have HB5 := Lib.hid (HB4.out.trans (hb5.mono HB4.out.size))
      clear hb5
      go_wp2_with fail
      go_ret
      exact ⟨rfl, HB5.out⟩
    | true =>
      have HK : Hid (pl.appG D (pl.backR cs) = true ∧ pl.appD D (pl.backR cs) = A ∧ pl.validLs D = true) := Lib.hid (by
        rw [← HD.out]; exact pl.app_back (by rw [HG.out]; exact hgv))
      have HLD : Hid (D.length ≤ maxLen) := Lib.hid (by have := HDL.out; unfold maxLen; omega)
      have HZD : Hid (∀ i, i < D.length → (nth D i).size ≤ maxLen) := Lib.hid (fun i hi => by have := pl.validLs_size HK.out.2.2 i hi; unfold maxLen; omega)
      clear hgv
      go_wp2_with fail
      refine (equalTexts_ap D D rfl _ _ _ HU3.out.1 HX.out (by have := HDL.out; omega)).mono ?_
      rintro e w4 ⟨rfl, hb4⟩
      have HU4 := Lib.hid (HU3.out.below (Nat.le_refl _) hb4)
      have HA4 := Lib.hid (HA3.out.below (Nat.le_refl _) hb4)
      have HC4 := Lib.hid (HC3.out.below (Nat.le_refl _) hb4)
      have HB4 := Lib.hid (HB3.out.trans (hb4.mono HB3.out.size))
      clear hb4
      go_wp2_with fail
      refine (iTurnChanges_any cs _ _ HC4.out HS.out.maxA).mono ?_
      rintro e w5 ⟨t, rfl, ho, hb5⟩
      have HT := Lib.hid ho.reads
      have HU5 := Lib.hid (HU4.out.below (Nat.le_refl _) hb5)
      have HA5 := Lib.hid (HA4.out.below (Nat.le_refl _) hb5)
      have HB5 := Lib.hid (HB4.out.trans (hb5.mono HB4.out.size))
      clear ho hb5
      go_wp2_with fail
      refine (iApplyChanges_any D (pl.backR cs) _ _ _ HU5.out HT.out HLD.out HZD.out (pl.backR_shortA HS.out)).mono ?_
      rintro e w6 ⟨y, rfl, ho, hb6⟩
      rw [HK.out.2.1] at ho
      rw [HK.out.1]
      have HY := Lib.hid ho.reads
      have HA6 := Lib.hid (HA5.out.below (Nat.le_refl _) hb6)
      have HB6 := Lib.hid (HB5.out.trans (hb6.mono HB5.out.size))
      clear ho hb6
      go_wp2_with fail
      refine (equalTexts_ap A A rfl _ _ _ HY.out HA6.out.1 (by have := HLA.out; omega)).mono ?_
      rintro e w7 ⟨rfl, hb7⟩
      have HB7 := Lib.hid (HB6.out.trans (hb7.mono HB6.out.size))
      clear hb7
      go_wp2_with fail
      go_ret
      exact ⟨rfl, HB7.out⟩
end Go.Proofs.Ytckfpneooknifaa
