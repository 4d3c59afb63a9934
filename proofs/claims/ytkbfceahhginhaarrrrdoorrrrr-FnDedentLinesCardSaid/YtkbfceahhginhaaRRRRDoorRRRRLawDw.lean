/- The walk of FnDedentLines. -/
import Derived.Test.YtkbfceahhginhaaRRRRDoorRRRRLawD
import Derived.Deep.RegionWith
namespace Go.Proofs.YtkbfceahhginhaaRRRRDoorRRRR
open Go.RowKit
set_option maxRecDepth 100000

set_option maxHeartbeats 40000000 in
theorem fnDedentLines_walk (a : Option Addr) (len cap : Nat) (zs : List Int) (w : World) (hr : IsRow .u8 w a len cap zs) :
    Calls Tryd.prog 3 #[.slice a len cap] w fun e w' => e = .returned (.bool true) ∧ Below w.heap.size w w' := by
  have hlen := row_len hr
  by_cases hb : 1048576 < len
  · go_enter Tryd.func3, Tryd.ntmps3
    go_wp2
    go_ret
    exact ⟨rfl, Below.refl _ _⟩
  · go_enter Tryd.func3, Tryd.ntmps3
    go_wp2_with fail
    refine (dDedentLines_any a len cap zs _ hr).mono ?_
    rintro e w1 ⟨v, l, rfl, ho, hl, hf, hb1⟩
    have HO1 := Lib.hid ho
    have HB1 := Lib.hid hb1
    have HLN : Hid (l.length ≤ 1048576) := Lib.hid (by omega)
    have HSZ : Hid (∀ i, i < l.length → (nth l i).size ≤ 1048576) := Lib.hid (fun i hi => by have := hf i hi; omega)
    have HF := Lib.hid hf
    clear ho hb1 hf
    go_wp2_with fail
    refine (iDedent_any l v _ HO1.out.reads HLN.out HSZ.out).mono ?_
    rintro e w2 ⟨v4, rfl, ho4, hb2⟩
    obtain ⟨D, HD⟩ : ∃ D, Hid (pl.dedR l = D) := ⟨_, Lib.hid rfl⟩
    rw [HD.out] at ho4
    have hDl : D.length ≤ l.length := by rw [← HD.out]; exact pl.dedR_len2 l
    have C2 := Lib.hid ho4
    have HO2 := Lib.hid (HO1.out.below (Nat.le_refl _) hb2)
    have HB2 := Lib.hid (HB1.out.trans (hb2.mono HB1.out.size))
    clear ho4 hb2
    go_wp2_with fail
    refine (sDedent_any l v _ HO2.out.reads HLN.out HSZ.out).mono ?_
    rintro e w3 ⟨vs, rfl, hos, hb3⟩
    rw [HD.out] at hos
    have D3 := Lib.hid hos
    have C3 := Lib.hid (C2.out.below (Nat.le_refl _) hb3)
    have HO3 := Lib.hid (HO2.out.below (Nat.le_refl _) hb3)
    have HB3 := Lib.hid (HB2.out.trans (hb3.mono HB2.out.size))
    clear hos hb3
    go_wp2_with fail
    refine (equalTexts_same D D rfl v4 vs _ C3.out.reads D3.out.reads (by omega)).mono ?_
    rintro e w4 ⟨rfl, hb4⟩
    have C4 := Lib.hid (C3.out.below (Nat.le_refl _) hb4)
    have HO4 := Lib.hid (HO3.out.below (Nat.le_refl _) hb4)
    have HB4 := Lib.hid (HB3.out.trans (hb4.mono HB3.out.size))
    clear hb4 C2 C3 D3 HO1 HO2 HO3
    obtain ⟨a4, c4, hv4⟩ := C4.out.reads.slice
    subst hv4
    by_cases hD0 : D.length = 0
    · have hDi : ((D.length : Nat) : Int) = 0 := by omega
      go_wp2_with fail
      refine (sDedent_any l v _ HO4.out.reads HLN.out HSZ.out).mono ?_
      rintro e w5 ⟨vt, rfl, hot, hb5⟩
      rw [HD.out] at hot
      have D5 := Lib.hid hot
      have C5 := Lib.hid (C4.out.below (Nat.le_refl _) hb5)
      have HB5 := Lib.hid (HB4.out.trans (hb5.mono HB4.out.size))
      clear hot hb5
      go_wp2_with fail
      refine (equalTexts_same D D rfl _ vt _ (by have h := C5.out.reads; rw [hD0] at h; exact h) D5.out.reads (by omega)).mono ?_
      rintro e w6 ⟨rfl, hb6⟩
      have HB6 := Lib.hid (HB5.out.trans (hb6.mono HB5.out.size))
      clear hb6
      go_wp2_with fail
      go_ret
      exact ⟨rfl, HB6.out⟩
    · have hDi : ¬ ((D.length : Nat) : Int) = 0 := by omega
      have hv : pl.validLs l = true := by
        by_cases e : pl.validLs l = true
        · exact e
        · exfalso; apply hD0; rw [← HD.out, pl.dedR_no (by simpa using e)]; rfl
      have hme := Lib.hid (pl.marginB_at hv)
      have hmb := pl.margin_bd hv
      have hDe := Lib.hid (HD.out.symm.trans (pl.dedR_ok hv))
      have hDD := Lib.hid (show pl.dedR D = D by rw [← HD.out]; exact pl.dedR_dedR l)
      have hle : Hid (∀ i, i < l.length → pl.ld (nth l i) < (nth l i).size → (pl.marginL l).toNat ≤ pl.ld (nth l i)) := Lib.hid (fun i hi h => pl.margin_le hi h)
      have hvl : Hid (∀ i, i < l.length → pl.validT (nth l i).data.toList = true) := Lib.hid (fun i hi => pl.validLs_nth hv hi)
      have HZD : Hid (∀ i, i < D.length → (nth D i).size ≤ 1048576) := Lib.hid (by rw [← HD.out]; exact pl.dedR_size _ HSZ.out)
      have hDlen : Hid (D.length = l.length) := Lib.hid (by rw [hDe.out, pl.ded_len])
      obtain ⟨M, HM⟩ : ∃ M, Hid ((pl.marginL l).toNat = M) := ⟨_, Lib.hid rfl⟩
      rw [HM.out] at hme hmb hle hDe
      clear hv
      obtain ⟨n, hn⟩ : ∃ n, n = l.length := ⟨_, rfl⟩
      have HN := Lib.hid hn
      obtain ⟨a0, cap0, hve⟩ := HO4.out.reads.slice
      subst hve
      rw [← hn] at hl ⊢
      clear hn
      have hDl2 : D.length ≤ n := by rw [HN.out]; exact hDl
      have hn0 : (0 : Int) < (n : Int) := by omega
      go_wp2_with fail
      refine (iMarginOf_any l _ _ (by have h := HO4.out.reads; rw [← HN.out] at h; exact h) HLN.out HSZ.out).mono ?_
      rintro e w5 ⟨rfl, hb5⟩
      rw [hme.out]
      have C5 := Lib.hid (C4.out.below (Nat.le_refl _) hb5)
      have HO5 := Lib.hid (HO4.out.below (Nat.le_refl _) hb5)
      have HB5 := Lib.hid (HB4.out.trans (hb5.mono HB4.out.size))
      clear hb5
      by_cases hM : M ≤ 10
      · have hMi : (M : Int) ≤ 10 := by omega
        go_wp2_with fail
        rw [Int.min_eq_left hMi]
        refine (iIndent_any D M _ _ C5.out.reads (by have := HLN.out; omega) HZD.out).mono ?_
        rintro e w6 ⟨v6, rfl, ho6, hb6⟩
        have I6 := Lib.hid ho6
        have C6 := Lib.hid (C5.out.below (Nat.le_refl _) hb6)
        have HO6 := Lib.hid (HO5.out.below (Nat.le_refl _) hb6)
        have HB6 := Lib.hid (HB5.out.trans (hb6.mono HB5.out.size))
        clear ho6 hb6
        by_cases hG : pl.indB D M = true
        · skip
          have hIeq := Lib.hid (pl.indR_yes hG)
          have hfitG : Hid (∀ i, i < l.length → nth (pl.ind D M) i = pl.ptS M (pl.ebS (pl.tkS M (pl.ebS (nth l i))))) := Lib.hid (fun i hi => by rw [pl.nth_ind (by rw [hDlen.out]; exact hi), hDe.out, pl.nth_ded hi])
          rw [hG]
          rw [hIeq.out] at I6
          have hIl : Hid (n = (pl.ind D M).length) := Lib.hid (by rw [pl.ind_len, hDlen.out]; exact HN.out)
          have hrb := Lib.hid I6.out.reads
          obtain ⟨a6, c6, hv6⟩ := I6.out.reads.slice
          subst hv6
          rw [← hIl.out] at hrb ⊢
          have hrr := Lib.hid HO6.out.reads
          rw [← HN.out] at hrr
          clear hG
          go_wp2_with fail
          go_loopw [8] (fun iv wr => ∃ k : Nat, k ≤ n ∧ iv = .int .i64 k ∧ Below w6.heap.size w6 wr) (fun iv _ => n - (intOf iv).toNat)
          case atStart => exact ⟨0, Nat.zero_le _, rfl, Below.refl _ _⟩
          case round =>
            obtain ⟨k, hk, rfl, hbel⟩ := hrel
            have HBEL := Lib.hid hbel
            clear hbel
            by_cases hlt : k < n
            · have hkl : Hid (k < l.length) := Lib.hid (by rw [← HN.out]; exact hlt)
              obtain ⟨b1, o1, rfl, hx⟩ := hrr.out.at HN.out HBEL.out hlt
              obtain ⟨b2, o2, rfl, hy⟩ := hrb.out.at hIl.out HBEL.out hlt
              have hxm := HF.out k hkl.out
              have hlk := hle.out k hkl.out
              have hvk := hvl.out k hkl.out
              rw [hfitG.out k hkl.out] at hy
              obtain ⟨x, HX⟩ : ∃ x, Hid (nth l k = x) := ⟨_, Lib.hid rfl⟩
              rw [HX.out] at hx hxm hlk hvk hy
              have hb1w := World.block_lt_of_cell? wr _ hx
              have hb2w := World.block_lt_of_cell? wr _ hy
              obtain ⟨q, HQ⟩ : ∃ q, Hid ((pl.wordsOf x).length = q) := ⟨_, Lib.hid rfl⟩
              by_cases hbk : x.size ≤ pl.ld x
              · have hy2 : Hid (pl.ptS M (pl.ebS (pl.tkS M (pl.ebS x))) = ⟨#[]⟩) := Lib.hid (pl.back_blank hbk)
                rw [hy2.out] at hy
                have hq0 : q = 0 := by rw [← HQ.out, pl.blank_words hbk]; rfl
                have HQ0 : Hid ((pl.wordsOf x).length = 0) := Lib.hid (by rw [HQ.out, hq0])
                clear hlk hbk hvk hq0 hy2
                go_wp2_with fail
                refine wp_region_any (by kernel_rfl) ?_
                try (change wpAny _ _ _ _ _ _ _ (World.drew _))
                refine wpAny_take (i := 0) (v := ?_) rfl (by kernel_rfl) (by kernel_rfl) (by kernel_rfl) (fun _ _ _ h => h) (Or.inl ⟨by kernel_rfl, ?_⟩) ?_
                rotate_left
                · intro w0
                  go_simp
                  try with_reducible rfl
                refine wpAny_take (i := 1) (v := ?_) rfl (by kernel_rfl) (by kernel_rfl) (by kernel_rfl) (fun _ _ _ h => h) (Or.inl ⟨by kernel_rfl, ?_⟩) ?_
                rotate_left
                · intro w0
                  go_simp
                  try with_reducible rfl
                refine wpAny_take (i := 2) (v := ?_) rfl (by kernel_rfl) (by kernel_rfl) (by kernel_rfl) (fun _ _ _ h => h) (Or.inl ⟨by kernel_rfl, ?_⟩) ?_
                rotate_left
                · intro w0
                  go_simp
                  try with_reducible rfl
                refine wpAny_ready (rs := [3]) (by kernel_rfl) (by simp) ?_
                refine AllReady.cons rfl (fun K hK => ?_) AllReady.nil
                go_simp
                refine hK _ _ ?_
                clear hK K
                refine wpAny_ready (rs := [4]) (by kernel_rfl) (by simp) ?_
                refine AllReady.cons rfl (fun K hK => ?_) AllReady.nil
                go_simp
                go_wp2_with (go_at_call 14; refine (iWordsOf_len x 0 HQ0.out _ (by unfold maxLen; omega)).mono ?_; rintro e wa ⟨⟨aw, cw, rfl⟩, hba⟩)
                have hxa := (hba.cell (p := ⟨b1, o1 + k, none⟩) (by simpa using hb1w)).trans (by simpa using hx)
                have hya := (hba.cell (p := ⟨b2, o2 + k, none⟩) (by simpa using hb2w)).trans (by simpa using hy)
                have hb2a := Nat.lt_of_lt_of_le (show b2 < _ by simpa using hb2w) hba.size
                have hbela := Lib.hid (HBEL.out.trans (((Below.refl _ _).drew.trans hba).mono HBEL.out.size))
                clear hba
                refine wpAny_take (i := 5) (v := ?_) rfl (by kernel_rfl) (by kernel_rfl) (by kernel_rfl) (fun _ _ _ h => h) (Or.inl ⟨by kernel_rfl, ?_⟩) ?_
                rotate_left
                · intro w0
                  go_simp
                  try with_reducible rfl
                refine wpAny_take (i := 6) (v := ?_) rfl (by kernel_rfl) (by kernel_rfl) (by kernel_rfl) (fun _ _ _ h => h) (Or.inl ⟨by kernel_rfl, ?_⟩) ?_
                rotate_left
                · intro w0
                  go_simp
                  try with_reducible rfl
                refine wpAny_take (i := 7) (v := ?_) rfl (by kernel_rfl) (by kernel_rfl) (by kernel_rfl) (fun _ _ _ h => h) (Or.inl ⟨by kernel_rfl, ?_⟩) ?_
                rotate_left
                · intro w0
                  go_simp
                  try with_reducible rfl
                refine wpAny_take (i := 8) (v := undef) rfl (by kernel_rfl) (by kernel_rfl) (by kernel_rfl) (fun _ _ _ h => h) (Or.inr ⟨by kernel_rfl, rfl⟩) ?_
                refine wpAny_take (i := 9) (v := undef) rfl (by kernel_rfl) (by kernel_rfl) (by kernel_rfl) (fun _ _ _ h => h) (Or.inr ⟨by kernel_rfl, rfl⟩) ?_
                refine wpAny_take (i := 10) (v := undef) rfl (by kernel_rfl) (by kernel_rfl) (by kernel_rfl) (fun _ _ _ h => h) (Or.inr ⟨by kernel_rfl, rfl⟩) ?_
                refine wpAny_take (i := 11) (v := undef) rfl (by kernel_rfl) (by kernel_rfl) (by kernel_rfl) (fun _ _ _ h => h) (Or.inr ⟨by kernel_rfl, rfl⟩) ?_
                refine wpAny_take (i := 12) (v := undef) rfl (by kernel_rfl) (by kernel_rfl) (by kernel_rfl) (fun _ _ _ h => h) (Or.inr ⟨by kernel_rfl, rfl⟩) ?_
                refine wpAny_take (i := 13) (v := undef) rfl (by kernel_rfl) (by kernel_rfl) (by kernel_rfl) (fun _ _ _ h => h) (Or.inr ⟨by kernel_rfl, rfl⟩) ?_
                refine wpAny_take (i := 14) (v := undef) rfl (by kernel_rfl) (by kernel_rfl) (by kernel_rfl) (fun _ _ _ h => h) (Or.inr ⟨by kernel_rfl, rfl⟩) ?_
                refine wpAny_take (i := 15) (v := undef) rfl (by kernel_rfl) (by kernel_rfl) (by kernel_rfl) (fun _ _ _ h => h) (Or.inr ⟨by kernel_rfl, rfl⟩) ?_
                refine wpAny_take (i := 16) (v := undef) rfl (by kernel_rfl) (by kernel_rfl) (by kernel_rfl) (fun _ _ _ h => h) (Or.inr ⟨by kernel_rfl, rfl⟩) ?_
                refine wpAny_take (i := 17) (v := ?_) rfl (by kernel_rfl) (by kernel_rfl) (by kernel_rfl) (fun _ _ _ h => h) (Or.inl ⟨by kernel_rfl, ?_⟩) ?_
                rotate_left
                · intro w0
                  go_simp
                  try with_reducible rfl
                refine wpAny_take (i := 18) (v := ?_) rfl (by kernel_rfl) (by kernel_rfl) (by kernel_rfl) (fun _ _ _ h => h) (Or.inl ⟨by kernel_rfl, ?_⟩) ?_
                rotate_left
                · intro w0
                  go_simp
                  try with_reducible rfl
                refine wpAny_take (i := 19) (v := ?_) rfl (by kernel_rfl) (by kernel_rfl) (by kernel_rfl) (fun _ _ _ h => h) (Or.inl ⟨by kernel_rfl, ?_⟩) ?_
                rotate_left
                · intro w0
                  go_simp
                  try with_reducible rfl
                refine wpAny_take (i := 20) (v := ?_) rfl (by kernel_rfl) (by kernel_rfl) (by kernel_rfl) (fun _ _ _ h => h) (Or.inl ⟨by kernel_rfl, ?_⟩) ?_
                rotate_left
                · intro w0
                  go_simp
                  try with_reducible rfl
                refine wpAny_take (i := 21) (v := ?_) rfl (by kernel_rfl) (by kernel_rfl) (by kernel_rfl) (fun _ _ _ h => h) (Or.inl ⟨by kernel_rfl, ?_⟩) ?_
                rotate_left
                · intro w0
                  go_simp
                  try with_reducible rfl
                refine wpAny_ready (rs := [22]) (by kernel_rfl) (by simp) ?_
                refine AllReady.cons rfl (fun K hK => ?_) AllReady.nil
                go_simp
                refine hK _ _ ?_
                clear hK K
                refine wpAny_ready (rs := [23]) (by kernel_rfl) (by simp) ?_
                refine AllReady.cons rfl (fun K hK => ?_) AllReady.nil
                go_simp
                go_wp2_with (go_at_call 14; refine (iWordsOf_len x 0 HQ0.out _ (by unfold maxLen; omega)).mono ?_; rintro e wb ⟨⟨av, cv, rfl⟩, hbb⟩)
                have hyb := (hbb.cell (p := ⟨b2, o2 + k, none⟩) hb2a).trans hya
                have hbelb := Lib.hid (hbela.out.trans (hbb.mono hbela.out.size))
                clear hbb
                refine wpAny_take (i := 24) (v := ?_) rfl (by kernel_rfl) (by kernel_rfl) (by kernel_rfl) (fun _ _ _ h => h) (Or.inl ⟨by kernel_rfl, ?_⟩) ?_
                rotate_left
                · intro w0
                  go_simp
                  try with_reducible rfl
                refine wpAny_take (i := 25) (v := ?_) rfl (by kernel_rfl) (by kernel_rfl) (by kernel_rfl) (fun _ _ _ h => h) (Or.inl ⟨by kernel_rfl, ?_⟩) ?_
                rotate_left
                · intro w0
                  go_simp
                  try with_reducible rfl
                refine wpAny_take (i := 26) (v := ?_) rfl (by kernel_rfl) (by kernel_rfl) (by kernel_rfl) (fun _ _ _ h => h) (Or.inl ⟨by kernel_rfl, ?_⟩) ?_
                rotate_left
                · intro w0
                  go_simp
                  try with_reducible rfl
                refine wpAny_take (i := 27) (v := ?_) rfl (by kernel_rfl) (by kernel_rfl) (by kernel_rfl) (fun _ _ _ h => h) (Or.inl ⟨by kernel_rfl, ?_⟩) ?_
                rotate_left
                · intro w0
                  go_simp
                  try with_reducible rfl
                refine wpAny_take (i := 28) (v := ?_) rfl (by kernel_rfl) (by kernel_rfl) (by kernel_rfl) (fun _ _ _ h => h) (Or.inl ⟨by kernel_rfl, ?_⟩) ?_
                rotate_left
                · intro w0
                  go_simp
                  try with_reducible rfl
                refine wpAny_take (i := 29) (v := ?_) rfl (by kernel_rfl) (by kernel_rfl) (by kernel_rfl) (fun _ _ _ h => h) (Or.inl ⟨by kernel_rfl, ?_⟩) ?_
                rotate_left
                · intro w0
                  go_simp
                  try with_reducible rfl
                refine wpAny_ready (rs := [30]) (by kernel_rfl) (by simp) ?_
                refine AllReady.cons rfl (fun K hK => ?_) AllReady.nil
                go_simp
                refine hK _ _ ?_
                clear hK K
                refine wpAny_take (i := 31) (v := ?_) rfl (by kernel_rfl) (by kernel_rfl) (by kernel_rfl) (fun _ _ _ h => h) (Or.inl ⟨by kernel_rfl, ?_⟩) ?_
                rotate_left
                · intro w0
                  go_simp
                  try with_reducible rfl
                refine wpAny_take (i := 32) (v := ?_) rfl (by kernel_rfl) (by kernel_rfl) (by kernel_rfl) (fun _ _ _ h => h) (Or.inl ⟨by kernel_rfl, ?_⟩) ?_
                rotate_left
                · intro w0
                  go_simp
                  try with_reducible rfl
                refine wpAny_take (i := 33) (v := ?_) rfl (by kernel_rfl) (by kernel_rfl) (by kernel_rfl) (fun _ _ _ h => h) (Or.inl ⟨by kernel_rfl, ?_⟩) ?_
                rotate_left
                · intro w0
                  go_simp
                  try with_reducible rfl
                refine wpAny_done (by kernel_rfl) ?_ _
                go_wp2_with fail
                go_roundw
                case rel => exact ⟨k + 1, by omega, by go_num, hbelb.out⟩
                case measure => simp [intOf]; omega
              · have hy2 : Hid (pl.ptS M (pl.ebS (pl.tkS M (pl.ebS x))) = x) := Lib.hid (pl.back_same hbk (hlk (by omega)))
                rw [hy2.out] at hy
                have hq0 : 0 < q := by have := pl.words_some hvk hbk; rw [HQ.out] at this; omega
                have hq0i : (0 : Int) < (q : Int) := by omega
                have hqe : (((q : Nat) : Int) == 0) = false := by simp; omega
                have hqd : decide ((0 : Int) < (q : Int)) = true := decide_eq_true hq0i
                clear hlk hbk hvk hy2
                go_wp2_with fail
                refine wp_region_any (by kernel_rfl) ?_
                try (change wpAny _ _ _ _ _ _ _ (World.drew _))
                refine wpAny_take (i := 0) (v := ?_) rfl (by kernel_rfl) (by kernel_rfl) (by kernel_rfl) (fun _ _ _ h => h) (Or.inl ⟨by kernel_rfl, ?_⟩) ?_
                rotate_left
                · intro w0
                  go_simp
                  try with_reducible rfl
                refine wpAny_take (i := 1) (v := ?_) rfl (by kernel_rfl) (by kernel_rfl) (by kernel_rfl) (fun _ _ _ h => h) (Or.inl ⟨by kernel_rfl, ?_⟩) ?_
                rotate_left
                · intro w0
                  go_simp
                  try with_reducible rfl
                refine wpAny_take (i := 2) (v := ?_) rfl (by kernel_rfl) (by kernel_rfl) (by kernel_rfl) (fun _ _ _ h => h) (Or.inl ⟨by kernel_rfl, ?_⟩) ?_
                rotate_left
                · intro w0
                  go_simp
                  try with_reducible rfl
                refine wpAny_ready (rs := [3]) (by kernel_rfl) (by simp) ?_
                refine AllReady.cons rfl (fun K hK => ?_) AllReady.nil
                go_simp
                refine hK _ _ ?_
                clear hK K
                refine wpAny_ready (rs := [4]) (by kernel_rfl) (by simp) ?_
                refine AllReady.cons rfl (fun K hK => ?_) AllReady.nil
                go_simp
                go_wp2_with (go_at_call 14; refine (iWordsOf_len x q HQ.out _ (by unfold maxLen; omega)).mono ?_; rintro e wa ⟨⟨aw, cw, rfl⟩, hba⟩)
                have hxa := (hba.cell (p := ⟨b1, o1 + k, none⟩) (by simpa using hb1w)).trans (by simpa using hx)
                have hya := (hba.cell (p := ⟨b2, o2 + k, none⟩) (by simpa using hb2w)).trans (by simpa using hy)
                have hb2a := Nat.lt_of_lt_of_le (show b2 < _ by simpa using hb2w) hba.size
                have hbela := Lib.hid (HBEL.out.trans (((Below.refl _ _).drew.trans hba).mono HBEL.out.size))
                clear hba
                refine wpAny_take (i := 5) (v := ?_) rfl (by kernel_rfl) (by kernel_rfl) (by kernel_rfl) (fun _ _ _ h => h) (Or.inl ⟨by kernel_rfl, ?_⟩) ?_
                rotate_left
                · intro w0
                  go_simp
                  try with_reducible rfl
                refine wpAny_take (i := 6) (v := ?_) rfl (by kernel_rfl) (by kernel_rfl) (by kernel_rfl) (fun _ _ _ h => h) (Or.inl ⟨by kernel_rfl, ?_⟩) ?_
                rotate_left
                · intro w0
                  go_simp
                  try with_reducible rfl
                refine wpAny_take (i := 7) (v := ?_) rfl (by kernel_rfl) (by kernel_rfl) (by kernel_rfl) (fun _ _ _ h => h) (Or.inl ⟨by kernel_rfl, ?_⟩) ?_
                rotate_left
                · intro w0
                  go_simp
                  try with_reducible rfl
                try go_simp
                refine wpAny_take (i := 8) (v := ?_) rfl (by kernel_rfl) (by kernel_rfl) (by kernel_rfl) (fun _ _ _ h => h) (Or.inl ⟨by kernel_rfl, ?_⟩) ?_
                rotate_left
                · intro w0
                  go_simp
                  try with_reducible rfl
                refine wpAny_take (i := 9) (v := ?_) rfl (by kernel_rfl) (by kernel_rfl) (by kernel_rfl) (fun _ _ _ h => h) (Or.inl ⟨by kernel_rfl, ?_⟩) ?_
                rotate_left
                · intro w0
                  go_simp
                  try with_reducible rfl
                refine wpAny_take (i := 10) (v := ?_) rfl (by kernel_rfl) (by kernel_rfl) (by kernel_rfl) (fun _ _ _ h => h) (Or.inl ⟨by kernel_rfl, ?_⟩) ?_
                rotate_left
                · intro w0
                  go_simp
                  try with_reducible rfl
                try go_simp
                refine wpAny_take (i := 12) (v := ?_) rfl (by kernel_rfl) (by kernel_rfl) (by kernel_rfl) (fun _ _ _ h => h) (Or.inl ⟨by kernel_rfl, ?_⟩) ?_
                rotate_left
                · intro w0
                  go_simp
                  try with_reducible rfl
                refine wpAny_take (i := 13) (v := ?_) rfl (by kernel_rfl) (by kernel_rfl) (by kernel_rfl) (fun _ _ _ h => h) (Or.inl ⟨by kernel_rfl, ?_⟩) ?_
                rotate_left
                · intro w0
                  go_simp
                  try with_reducible rfl
                refine wpAny_take (i := 14) (v := ?_) rfl (by kernel_rfl) (by kernel_rfl) (by kernel_rfl) (fun _ _ _ h => h) (Or.inl ⟨by kernel_rfl, ?_⟩) ?_
                rotate_left
                · intro w0
                  go_simp
                  try with_reducible rfl
                try go_simp
                refine wpAny_ready (rs := [11, 15]) (by kernel_rfl) (by simp) ?_
                refine AllReady.cons rfl (fun K hK => ?_) (AllReady.cons rfl (fun K hK => ?_) AllReady.nil)
                · go_simp
                  refine hK _ _ ?_
                  clear hK K
                  refine wpAny_ready (rs := [15]) (by kernel_rfl) (by simp) ?_
                  refine AllReady.cons rfl (fun K hK => ?_) AllReady.nil
                  go_simp
                  refine hK _ _ ?_
                  clear hK K
                  refine wpAny_take (i := 16) (v := ?_) rfl (by kernel_rfl) (by kernel_rfl) (by kernel_rfl) (fun _ _ _ h => h) (Or.inl ⟨by kernel_rfl, ?_⟩) ?_
                  rotate_left
                  · intro w0
                    go_simp
                    try with_reducible rfl
                  refine wpAny_take (i := 17) (v := ?_) rfl (by kernel_rfl) (by kernel_rfl) (by kernel_rfl) (fun _ _ _ h => h) (Or.inl ⟨by kernel_rfl, ?_⟩) ?_
                  rotate_left
                  · intro w0
                    go_simp
                    try with_reducible rfl
                  refine wpAny_take (i := 18) (v := ?_) rfl (by kernel_rfl) (by kernel_rfl) (by kernel_rfl) (fun _ _ _ h => h) (Or.inl ⟨by kernel_rfl, ?_⟩) ?_
                  rotate_left
                  · intro w0
                    go_simp
                    try with_reducible rfl
                  try go_simp
                  refine wpAny_take (i := 19) (v := ?_) rfl (by kernel_rfl) (by kernel_rfl) (by kernel_rfl) (fun _ _ _ h => h) (Or.inl ⟨by kernel_rfl, ?_⟩) ?_
                  rotate_left
                  · intro w0
                    go_simp
                    try with_reducible rfl
                  refine wpAny_take (i := 20) (v := ?_) rfl (by kernel_rfl) (by kernel_rfl) (by kernel_rfl) (fun _ _ _ h => h) (Or.inl ⟨by kernel_rfl, ?_⟩) ?_
                  rotate_left
                  · intro w0
                    go_simp
                    try with_reducible rfl
                  refine wpAny_take (i := 21) (v := ?_) rfl (by kernel_rfl) (by kernel_rfl) (by kernel_rfl) (fun _ _ _ h => h) (Or.inl ⟨by kernel_rfl, ?_⟩) ?_
                  rotate_left
                  · intro w0
                    go_simp
                    try with_reducible rfl
                  refine wpAny_ready (rs := [22]) (by kernel_rfl) (by simp) ?_
                  refine AllReady.cons rfl (fun K hK => ?_) AllReady.nil
                  go_simp
                  refine hK _ _ ?_
                  clear hK K
                  refine wpAny_ready (rs := [23]) (by kernel_rfl) (by simp) ?_
                  refine AllReady.cons rfl (fun K hK => ?_) AllReady.nil
                  go_simp
                  go_wp2_with (go_at_call 14; refine (iWordsOf_len x q HQ.out _ (by unfold maxLen; omega)).mono ?_; rintro e wb ⟨⟨av, cv, rfl⟩, hbb⟩)
                  have hyb := (hbb.cell (p := ⟨b2, o2 + k, none⟩) hb2a).trans hya
                  have hbelb := Lib.hid (hbela.out.trans (hbb.mono hbela.out.size))
                  clear hbb
                  refine wpAny_take (i := 24) (v := ?_) rfl (by kernel_rfl) (by kernel_rfl) (by kernel_rfl) (fun _ _ _ h => h) (Or.inl ⟨by kernel_rfl, ?_⟩) ?_
                  rotate_left
                  · intro w0
                    go_simp
                    try with_reducible rfl
                  refine wpAny_take (i := 25) (v := ?_) rfl (by kernel_rfl) (by kernel_rfl) (by kernel_rfl) (fun _ _ _ h => h) (Or.inl ⟨by kernel_rfl, ?_⟩) ?_
                  rotate_left
                  · intro w0
                    go_simp
                    try with_reducible rfl
                  refine wpAny_take (i := 26) (v := ?_) rfl (by kernel_rfl) (by kernel_rfl) (by kernel_rfl) (fun _ _ _ h => h) (Or.inl ⟨by kernel_rfl, ?_⟩) ?_
                  rotate_left
                  · intro w0
                    go_simp
                    try with_reducible rfl
                  try go_simp
                  refine wpAny_take (i := 27) (v := undef) rfl (by kernel_rfl) (by kernel_rfl) (by kernel_rfl) (fun _ _ _ h => h) (Or.inr ⟨by kernel_rfl, rfl⟩) ?_
                  refine wpAny_take (i := 28) (v := undef) rfl (by kernel_rfl) (by kernel_rfl) (by kernel_rfl) (fun _ _ _ h => h) (Or.inr ⟨by kernel_rfl, rfl⟩) ?_
                  refine wpAny_take (i := 29) (v := undef) rfl (by kernel_rfl) (by kernel_rfl) (by kernel_rfl) (fun _ _ _ h => h) (Or.inr ⟨by kernel_rfl, rfl⟩) ?_
                  refine wpAny_take (i := 30) (v := undef) rfl (by kernel_rfl) (by kernel_rfl) (by kernel_rfl) (fun _ _ _ h => h) (Or.inr ⟨by kernel_rfl, rfl⟩) ?_
                  refine wpAny_take (i := 31) (v := undef) rfl (by kernel_rfl) (by kernel_rfl) (by kernel_rfl) (fun _ _ _ h => h) (Or.inr ⟨by kernel_rfl, rfl⟩) ?_
                  try go_simp
                  refine wpAny_take (i := 32) (v := ?_) rfl (by kernel_rfl) (by kernel_rfl) (by kernel_rfl) (fun _ _ _ h => h) (Or.inl ⟨by kernel_rfl, ?_⟩) ?_
                  rotate_left
                  · intro w0
                    go_simp
                    try with_reducible rfl
                  refine wpAny_take (i := 33) (v := ?_) rfl (by kernel_rfl) (by kernel_rfl) (by kernel_rfl) (fun _ _ _ h => h) (Or.inl ⟨by kernel_rfl, ?_⟩) ?_
                  rotate_left
                  · intro w0
                    go_simp
                    try with_reducible rfl
                  refine wpAny_done (by kernel_rfl) ?_ _
                  go_wp2_with fail
                  go_roundw
                  case rel => exact ⟨k + 1, by omega, by go_num, hbelb.out⟩
                  case measure => simp [intOf]; omega
                · go_simp
                  refine hK _ _ ?_
                  clear hK K
                  refine wpAny_ready (rs := [11]) (by kernel_rfl) (by simp) ?_
                  refine AllReady.cons rfl (fun K hK => ?_) AllReady.nil
                  go_simp
                  refine hK _ _ ?_
                  clear hK K
                  refine wpAny_take (i := 16) (v := ?_) rfl (by kernel_rfl) (by kernel_rfl) (by kernel_rfl) (fun _ _ _ h => h) (Or.inl ⟨by kernel_rfl, ?_⟩) ?_
                  rotate_left
                  · intro w0
                    go_simp
                    try with_reducible rfl
                  refine wpAny_take (i := 17) (v := ?_) rfl (by kernel_rfl) (by kernel_rfl) (by kernel_rfl) (fun _ _ _ h => h) (Or.inl ⟨by kernel_rfl, ?_⟩) ?_
                  rotate_left
                  · intro w0
                    go_simp
                    try with_reducible rfl
                  refine wpAny_take (i := 18) (v := ?_) rfl (by kernel_rfl) (by kernel_rfl) (by kernel_rfl) (fun _ _ _ h => h) (Or.inl ⟨by kernel_rfl, ?_⟩) ?_
                  rotate_left
                  · intro w0
                    go_simp
                    try with_reducible rfl
                  try go_simp
                  refine wpAny_take (i := 19) (v := ?_) rfl (by kernel_rfl) (by kernel_rfl) (by kernel_rfl) (fun _ _ _ h => h) (Or.inl ⟨by kernel_rfl, ?_⟩) ?_
                  rotate_left
                  · intro w0
                    go_simp
                    try with_reducible rfl
                  refine wpAny_take (i := 20) (v := ?_) rfl (by kernel_rfl) (by kernel_rfl) (by kernel_rfl) (fun _ _ _ h => h) (Or.inl ⟨by kernel_rfl, ?_⟩) ?_
                  rotate_left
                  · intro w0
                    go_simp
                    try with_reducible rfl
                  refine wpAny_take (i := 21) (v := ?_) rfl (by kernel_rfl) (by kernel_rfl) (by kernel_rfl) (fun _ _ _ h => h) (Or.inl ⟨by kernel_rfl, ?_⟩) ?_
                  rotate_left
                  · intro w0
                    go_simp
                    try with_reducible rfl
                  refine wpAny_ready (rs := [22]) (by kernel_rfl) (by simp) ?_
                  refine AllReady.cons rfl (fun K hK => ?_) AllReady.nil
                  go_simp
                  refine hK _ _ ?_
                  clear hK K
                  refine wpAny_ready (rs := [23]) (by kernel_rfl) (by simp) ?_
                  refine AllReady.cons rfl (fun K hK => ?_) AllReady.nil
                  go_simp
                  go_wp2_with (go_at_call 14; refine (iWordsOf_len x q HQ.out _ (by unfold maxLen; omega)).mono ?_; rintro e wb ⟨⟨av, cv, rfl⟩, hbb⟩)
                  have hyb := (hbb.cell (p := ⟨b2, o2 + k, none⟩) hb2a).trans hya
                  have hbelb := Lib.hid (hbela.out.trans (hbb.mono hbela.out.size))
                  clear hbb
                  refine wpAny_take (i := 24) (v := ?_) rfl (by kernel_rfl) (by kernel_rfl) (by kernel_rfl) (fun _ _ _ h => h) (Or.inl ⟨by kernel_rfl, ?_⟩) ?_
                  rotate_left
                  · intro w0
                    go_simp
                    try with_reducible rfl
                  refine wpAny_take (i := 25) (v := ?_) rfl (by kernel_rfl) (by kernel_rfl) (by kernel_rfl) (fun _ _ _ h => h) (Or.inl ⟨by kernel_rfl, ?_⟩) ?_
                  rotate_left
                  · intro w0
                    go_simp
                    try with_reducible rfl
                  refine wpAny_take (i := 26) (v := ?_) rfl (by kernel_rfl) (by kernel_rfl) (by kernel_rfl) (fun _ _ _ h => h) (Or.inl ⟨by kernel_rfl, ?_⟩) ?_
                  rotate_left
                  · intro w0
                    go_simp
                    try with_reducible rfl
                  try go_simp
                  refine wpAny_take (i := 27) (v := undef) rfl (by kernel_rfl) (by kernel_rfl) (by kernel_rfl) (fun _ _ _ h => h) (Or.inr ⟨by kernel_rfl, rfl⟩) ?_
                  refine wpAny_take (i := 28) (v := undef) rfl (by kernel_rfl) (by kernel_rfl) (by kernel_rfl) (fun _ _ _ h => h) (Or.inr ⟨by kernel_rfl, rfl⟩) ?_
                  refine wpAny_take (i := 29) (v := undef) rfl (by kernel_rfl) (by kernel_rfl) (by kernel_rfl) (fun _ _ _ h => h) (Or.inr ⟨by kernel_rfl, rfl⟩) ?_
                  refine wpAny_take (i := 30) (v := undef) rfl (by kernel_rfl) (by kernel_rfl) (by kernel_rfl) (fun _ _ _ h => h) (Or.inr ⟨by kernel_rfl, rfl⟩) ?_
                  refine wpAny_take (i := 31) (v := undef) rfl (by kernel_rfl) (by kernel_rfl) (by kernel_rfl) (fun _ _ _ h => h) (Or.inr ⟨by kernel_rfl, rfl⟩) ?_
                  try go_simp
                  refine wpAny_take (i := 32) (v := ?_) rfl (by kernel_rfl) (by kernel_rfl) (by kernel_rfl) (fun _ _ _ h => h) (Or.inl ⟨by kernel_rfl, ?_⟩) ?_
                  rotate_left
                  · intro w0
                    go_simp
                    try with_reducible rfl
                  refine wpAny_take (i := 33) (v := ?_) rfl (by kernel_rfl) (by kernel_rfl) (by kernel_rfl) (fun _ _ _ h => h) (Or.inl ⟨by kernel_rfl, ?_⟩) ?_
                  rotate_left
                  · intro w0
                    go_simp
                    try with_reducible rfl
                  refine wpAny_done (by kernel_rfl) ?_ _
                  go_wp2_with fail
                  go_roundw
                  case rel => exact ⟨k + 1, by omega, by go_num, hbelb.out⟩
                  case measure => simp [intOf]; omega
            · obtain rfl : k = n := by omega
              have C7 := Lib.hid (C6.out.below (Nat.le_refl _) HBEL.out)
              have HB7 := Lib.hid (HB6.out.trans (HBEL.out.mono HB6.out.size))
              go_wp2_with fail
              refine (iDedent_any D _ _ C7.out.reads (by have := HLN.out; omega) HZD.out).mono ?_
              rintro e wf1 ⟨vF, rfl, hoF, hbf1⟩
              have CF := Lib.hid (C7.out.below (Nat.le_refl _) hbf1)
              have DF := Lib.hid hoF
              have HBF := Lib.hid (HB7.out.trans (hbf1.mono HB7.out.size))
              clear hoF hbf1
              go_wp2_with fail
              refine (equalTexts_same (pl.dedR D) D hDD.out vF _ _ DF.out.reads CF.out.reads (by rw [hDD.out]; omega)).mono ?_
              rintro e wf2 ⟨rfl, hbf2⟩
              have HBG := Lib.hid (HBF.out.trans (hbf2.mono HBF.out.size))
              clear hbf2
              go_wp2_with fail
              go_ret
              exact ⟨rfl, HBG.out⟩
        · have hG' : pl.indB D M = false := by simpa using hG
          rw [hG']
          clear hG hG'
          go_wp2_with fail
          refine wp_loop_rounds 1 ?_
          rw [rounds_succ]
          go_wp2_with fail
          refine (iDedent_any D _ _ C6.out.reads (by have := HLN.out; omega) HZD.out).mono ?_
          rintro e wf1 ⟨vF, rfl, hoF, hbf1⟩
          have CF := Lib.hid (C6.out.below (Nat.le_refl _) hbf1)
          have DF := Lib.hid hoF
          have HBF := Lib.hid (HB6.out.trans (hbf1.mono HB6.out.size))
          clear hoF hbf1
          go_wp2_with fail
          refine (equalTexts_same (pl.dedR D) D hDD.out vF _ _ DF.out.reads CF.out.reads (by rw [hDD.out]; omega)).mono ?_
          rintro e wf2 ⟨rfl, hbf2⟩
          have HBG := Lib.hid (HBF.out.trans (hbf2.mono HBF.out.size))
          clear hbf2
          go_wp2_with fail
          go_ret
          exact ⟨rfl, HBG.out⟩
      · have hMi : ¬ (M : Int) ≤ 10 := by omega
        go_wp2_with fail
        rw [Int.min_eq_right (by omega : (10 : Int) ≤ (M : Int))]
        refine (iIndent_any D 10 _ _ C5.out.reads (by have := HLN.out; omega) HZD.out).mono ?_
        rintro e w6 ⟨v6, rfl, ho6, hb6⟩
        have I6 := Lib.hid ho6
        have C6 := Lib.hid (C5.out.below (Nat.le_refl _) hb6)
        have HO6 := Lib.hid (HO5.out.below (Nat.le_refl _) hb6)
        have HB6 := Lib.hid (HB5.out.trans (hb6.mono HB5.out.size))
        clear ho6 hb6
        obtain ⟨G, HG⟩ : ∃ G, Hid (pl.indB D 10 = G) := ⟨_, Lib.hid rfl⟩
        rw [HG.out]
        cases G with
        | true =>
          go_wp2_with fail
          refine wp_loop_rounds 1 ?_
          rw [rounds_succ]
          go_wp2_with fail
          refine (iDedent_any D _ _ C6.out.reads (by have := HLN.out; omega) HZD.out).mono ?_
          rintro e wf1 ⟨vF, rfl, hoF, hbf1⟩
          have CF := Lib.hid (C6.out.below (Nat.le_refl _) hbf1)
          have DF := Lib.hid hoF
          have HBF := Lib.hid (HB6.out.trans (hbf1.mono HB6.out.size))
          clear hoF hbf1
          go_wp2_with fail
          refine (equalTexts_same (pl.dedR D) D hDD.out vF _ _ DF.out.reads CF.out.reads (by rw [hDD.out]; omega)).mono ?_
          rintro e wf2 ⟨rfl, hbf2⟩
          have HBG := Lib.hid (HBF.out.trans (hbf2.mono HBF.out.size))
          clear hbf2
          go_wp2_with fail
          go_ret
          exact ⟨rfl, HBG.out⟩
        | false =>
          go_wp2_with fail
          refine wp_loop_rounds 1 ?_
          rw [rounds_succ]
          go_wp2_with fail
          refine (iDedent_any D _ _ C6.out.reads (by have := HLN.out; omega) HZD.out).mono ?_
          rintro e wf1 ⟨vF, rfl, hoF, hbf1⟩
          have CF := Lib.hid (C6.out.below (Nat.le_refl _) hbf1)
          have DF := Lib.hid hoF
          have HBF := Lib.hid (HB6.out.trans (hbf1.mono HB6.out.size))
          clear hoF hbf1
          go_wp2_with fail
          refine (equalTexts_same (pl.dedR D) D hDD.out vF _ _ DF.out.reads CF.out.reads (by rw [hDD.out]; omega)).mono ?_
          rintro e wf2 ⟨rfl, hbf2⟩
          have HBG := Lib.hid (HBF.out.trans (hbf2.mono HBF.out.size))
          clear hbf2
          go_wp2_with fail
          go_ret
          exact ⟨rfl, HBG.out⟩
end Go.Proofs.YtkbfceahhginhaaRRRRDoorRRRR
