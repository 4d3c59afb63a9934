/- The walk of FnJustifyWords. -/
import Derived.Test.YtfajllfedhifkaaDrawW
import Derived.Test.YtfajllfedhifkaaJustI
import Derived.Test.YtfajllfedhifkaaPlainZ
import Derived.Test.YtfajllfedhifkaaWords
import Derived.Test.YtfajllfedhifkaaEq
namespace Go.Proofs.Ytfajllfedhifkaa
open Go.RowKit
set_option maxRecDepth 100000

theorem equalTexts_same (l l2 : List ByteArray) (he : l = l2) (va vb : Value) (w : World) (hA : RStrs w va l) (hB : RStrs w vb l2) (hl : l.length ≤ 2000000) :
    Calls Try.prog 19 #[va, vb] w fun e w' => e = .returned (.bool true) ∧ Below w.heap.size w w' :=
  (equalTexts_any l l2 va vb w hA hB hl).mono fun e w' ⟨h1, h2⟩ => ⟨by rw [h1]; simp [he], h2⟩

namespace pl
theorem sp_byte {c : UInt8} (h : c = 32) : (c.toNat : Int) = 32 := by rw [h]; rfl
theorem justOK_parts {l : List ByteArray} {wd : Int} (h : justOK l wd = true) : vWords l = true ∧ 2 ≤ l.length ∧ (szJ l : Int) ≤ wd ∧ wd ≤ 120 := by
  unfold justOK at h
  simp only [Bool.and_eq_true, decide_eq_true_eq] at h
  have := inR_parts h.2
  exact ⟨h.1.1, h.1.2, this.1, this.2⟩
theorem scan_at {q r : Nat} {l : List ByteArray} {k p t : Nat} {O : ByteArray} (hO : O = jTo q r l (p + 1)) (ht : (jTo q r l (k + 1)).size = t) (hk : k < p) (hw : wordOK (nth l (k + 1)) = true) :
    (∀ n, n < gap q r k → ∃ h : t + n < O.size, O[t + n]'h = 32) ∧ ∃ h : t + gap q r k < O.size, ¬ O[t + gap q r k]'h = 32 := by
  subst hO ht
  exact jTo_scan hk hw
end pl

set_option maxHeartbeats 4000000 in
theorem fnJustifyWords_walk (a : Option Addr) (len cap : Nat) (zs : List Int) (w : World) (hr : IsRow .u8 w a len cap zs) :
    Calls Try.prog 8 #[.slice a len cap] w fun e w' => e = .returned (.bool true) ∧ Below w.heap.size w w' := by
  have hlen := row_len hr
  by_cases hb : 1048576 < len
  · go_enter Try.func8, Try.ntmps8
    go_wp2
    go_ret
    exact ⟨rfl, Below.refl _ _⟩
  · go_enter Try.func8, Try.ntmps8
    go_wp2_with fail
    refine (dJustifyWords_any a len cap zs _ hr).mono ?_
    rintro e w1 ⟨v, l, x, rfl, ho, hl, hf, hx0, hx1, hb1⟩
    have HO1 := Lib.hid ho
    have HB1 := Lib.hid hb1
    have HLN : Hid (l.length ≤ maxLen) := Lib.hid (by unfold maxLen; omega)
    have HSZ : Hid (∀ i, i < l.length → (nth l i).size ≤ maxLen) := Lib.hid (fun i hi => by have := hf i hi; unfold maxLen; omega)
    obtain ⟨O, hO⟩ : ∃ O, Hid (pl.justB l x = O) := ⟨_, Lib.hid rfl⟩
    obtain ⟨ok, hok⟩ : ∃ ok, Hid (pl.justOK l x = ok) := ⟨_, Lib.hid rfl⟩
    clear ho hb1 hf
    go_wp2_with fail
    refine (iJust_any l x v _ HO1.out.lreads HLN.out HSZ.out).mono ?_
    rintro e w2 ⟨rfl, hb2⟩
    rw [hO.out, hok.out]
    have HO2 := Lib.hid (HO1.out.below (Nat.le_refl _) hb2)
    have HB2 := Lib.hid (HB1.out.trans (hb2.mono HB1.out.size))
    clear hb2
    go_wp2_with fail
    refine (sJust_any l x v _ HO2.out.reads HLN.out HSZ.out).mono ?_
    rintro e w3 ⟨rfl, hb3⟩
    rw [hO.out, hok.out]
    have HO3 := Lib.hid (HO2.out.below (Nat.le_refl _) hb3)
    have HB3 := Lib.hid (HB2.out.trans (hb3.mono HB2.out.size))
    clear hb3
    cases ok with
    | false =>
      go_wp2_with fail
      go_ret
      exact ⟨by first | rfl | simp, HB3.out⟩
    | true =>
      obtain ⟨T1, T2, T3, T4⟩ := pl.justOK_parts hok.out
      obtain ⟨p, hp⟩ : ∃ p, l.length = p + 1 := ⟨l.length - 1, by omega⟩
      have hp1 : 1 ≤ p := by omega
      have hp9 : p ≤ 9 := by omega
      have hs0 := pl.szJ_sz0 hp
      obtain ⟨B, hB⟩ : ∃ B : Nat, x - (pl.sz0 l : Int) = B := ⟨(x - (pl.sz0 l : Int)).toNat, by omega⟩
      have hBp : p ≤ B := by omega
      have hOj := pl.justB_yes hok.out hp hB
      have hfull := pl.jTo_full (l := l) (B := B) hp hp1
      obtain ⟨q, hq⟩ : ∃ q, B / p = q := ⟨_, rfl⟩
      obtain ⟨r, hr2⟩ : ∃ r, B % p = r := ⟨_, rfl⟩
      have hq1 : 1 ≤ q := by rw [← hq]; exact (Nat.one_le_div_iff (by omega)).2 hBp
      have hqB : q ≤ 120 := by rw [← hq]; exact Nat.le_trans (Nat.div_le_self _ _) (by omega)
      rw [hq, hr2] at hOj hfull
      have hOe : Hid (O = pl.jTo q r l (p + 1)) := Lib.hid (by rw [← hO.out]; exact hOj)
      have hOs : (O.size : Int) = x := by rw [hOe.out, hfull]; omega
      have hWt := Lib.hid (pl.vWords_parts T1).2
      have hwo : Hid (pl.wordsOf O = l) := Lib.hid (by rw [hOe.out]; exact pl.jTo_wordsOf hq1 hWt.out hp (by rw [← hOe.out]; omega))
      have HP := Lib.hid hp
      have H12 := Lib.hid (pl.words_12 T1)
      obtain ⟨a2, c2, hve⟩ := HO3.out.reads.slice
      subst hve
      rw [hp] at HO1 HO2 HO3 ⊢
      have HR := Lib.hid HO3.out.reads
      obtain ⟨b1, o1, rfl, hx0c⟩ := HR.out.at HP.out.symm (Below.refl _ _) (k := 0) (by omega)
      rw [Nat.add_zero] at hx0c
      obtain ⟨y0, HY0⟩ : ∃ y, Hid (nth l 0 = y) := ⟨_, Lib.hid rfl⟩
      have hy012 : y0.size ≤ 12 := by
        rw [← HY0.out, nth_eq (by rw [HP.out]; omega)]
        exact H12.out _ (List.getElem_mem _)
      rw [HY0.out] at hx0c
      have hat0 : Hid ((pl.jTo q r l 1).size = y0.size) := Lib.hid (by rw [← HY0.out]; rfl)
      have hgL0 : Hid (pl.gap q r 0 ≤ x.toNat) := Lib.hid (by
        obtain ⟨_, h, _⟩ := pl.scan_at hOe.out hat0.out (by omega) (hWt.out 1 (by rw [HP.out]; omega))
        omega)
      clear hOj hfull hq hr2 hp hB hs0 T1 T2 T3 hr hl
      go_wp2_with fail
      go_loop [9, 10, 11, 12] (fun av lv fv iv => ∃ (k t L F : Nat), k ≤ p ∧ iv = .int .i64 (k + 1 : Nat) ∧ av = .int .i64 t ∧ lv = .int .i64 L ∧ fv = .int .i64 F ∧ Hid ((pl.jTo q r l (k + 1)).size = t) ∧ t ≤ 1400 ∧ L ≤ 200 ∧ Hid (pl.gap q r k ≤ L) ∧ Hid (0 < k → F = pl.gap q r 0) ∧ F ≤ 200) (fun _ _ _ iv => p + 1 - (intOf iv).toNat)
      case atStart => exact ⟨0, y0.size, x.toNat, 0, by omega, rfl, rfl, by rw [Int.toNat_of_nonneg (by omega)], rfl, hat0, by omega, by omega, hgL0, Lib.hid (fun h => absurd h (by omega)), by omega⟩
      case round =>
        obtain ⟨k, t, L, F, hk, rfl, rfl, rfl, rfl, ht, htb, hLb, hgL, hF, hFb⟩ := hrel
        by_cases hlt : k < p
        · obtain ⟨hsc1, hsc2, hsc3⟩ := pl.scan_at hOe.out ht.out hlt (hWt.out (k + 1) (by rw [HP.out]; omega))
          obtain ⟨G, hG⟩ : ∃ G, Hid (pl.gap q r k = G) := ⟨_, Lib.hid rfl⟩
          have hG1 : 1 ≤ G := by rw [← hG.out]; have := pl.gap_ge q r k; omega
          have hGL : G ≤ L := by rw [← hG.out]; exact hgL.out
          have hgn : Hid (pl.gap q r (k + 1) ≤ G) := Lib.hid (by rw [← hG.out]; exact pl.gap_next q r k)
          have HS1 : Hid (∀ n, n < G → ∃ h : t + n < O.size, O[t + n]'h = 32) := Lib.hid (by rw [← hG.out]; exact hsc1)
          have HS2 : Hid (∃ h : t + G < O.size, ¬ O[t + G]'h = 32) := Lib.hid (by rw [← hG.out]; exact ⟨hsc2, hsc3⟩)
          obtain ⟨_, _, e2, hy⟩ := HR.out.at HP.out.symm (Below.refl _ _) (k := k + 1) (by omega)
          simp only [Option.some.injEq, Addr.mk.injEq, and_true] at e2
          obtain ⟨rfl, rfl⟩ := e2
          obtain ⟨y, HY⟩ : ∃ y, Hid (nth l (k + 1) = y) := ⟨_, Lib.hid rfl⟩
          have hy12 : y.size ≤ 12 := by
            rw [← HY.out, nth_eq (by rw [HP.out]; omega)]
            exact H12.out _ (List.getElem_mem _)
          rw [HY.out] at hy
          have ht2 : Hid ((pl.jTo q r l (k + 1 + 1)).size = t + G + y.size) := Lib.hid (by
            rw [pl.jTo_gap, ByteArray.size_append, ByteArray.size_append, pl.spB_size, ht.out, hG.out, HY.out])
          have htb2 : t + G + y.size ≤ 1400 := by
            have h := pl.jTo_size (r := r) hqB H12.out (k + 1) (by rw [HP.out]; omega)
            rw [ht2.out] at h; omega
          clear hsc1 hsc2 hsc3
          go_wp2_with fail
          go_loop [13] (fun nv => ∃ n : Nat, n ≤ G ∧ nv = .int .i64 n) (fun nv => G - (intOf nv).toNat)
          case atStart => exact ⟨0, Nat.zero_le _, rfl⟩
          case round =>
            obtain ⟨n, hn, rfl⟩ := hrel
            by_cases hnG : n < G
            · obtain ⟨h1, h2⟩ := HS1.out n hnG
              have h3 := pl.sp_byte h2
              clear h2
              go_wp2_with fail
              go_round
              case rel => exact ⟨n + 1, by omega, by go_num⟩
              case measure => simp [intOf]; omega
            · obtain rfl : n = G := by omega
              obtain ⟨h1, h2⟩ := HS2.out
              have h3 := pl.byte_ne h2
              clear h2
              by_cases h0 : k = 0
              · subst h0
                have hF2 : Hid (0 < 0 + 1 → n = pl.gap q r 0) := Lib.hid (fun _ => hG.out.symm)
                go_wp2_with fail
                go_round
                case rel => exact ⟨0 + 1, t + n + y.size, n, n, by omega, by go_num, by go_num, rfl, rfl, ht2, htb2, by omega, hgn, hF2, by omega⟩
                case measure => simp [intOf]; omega
              · have h0i : ¬ ((k : Int) + 1 = 1) := by omega
                have hFe := hF.out (by omega)
                have hF2 : Hid (0 < k + 1 → F = pl.gap q r 0) := Lib.hid (fun _ => hFe)
                have hFG : F ≤ n + 1 := by rw [hFe, ← hG.out]; have := pl.gap_ge q r k; have := pl.gap_le q r 0; omega
                clear hFe
                go_wp2_with fail
                go_round
                case rel => exact ⟨k + 1, t + n + y.size, n, F, by omega, by go_num, by go_num, rfl, rfl, ht2, htb2, by omega, hgn, hF2, by omega⟩
                case measure => simp [intOf]; omega
        · obtain rfl : k = p := by omega
          go_wp2_with fail
          refine (iWordsOf_any O _ (by unfold maxLen; omega)).mono ?_
          rintro e w4 ⟨v4, rfl, ho4, hb4⟩
          rw [hwo.out] at ho4
          have HB4 := Lib.hid (HB3.out.trans (hb4.mono HB3.out.size))
          have HR4 := Lib.hid (HR.out.below (Nat.le_refl _) hb4)
          clear hb4
          go_wp2_with fail
          refine (equalTexts_same l l rfl v4 _ _ ho4.reads HR4.out (by rw [HP.out]; omega)).mono ?_
          rintro e w5 ⟨rfl, hb5⟩
          have HB5 := Lib.hid (HB4.out.trans (hb5.mono HB4.out.size))
          clear hb5
          go_wp2_with fail
          go_ret
          exact ⟨by first | rfl | simp, HB5.out⟩
end Go.Proofs.Ytfajllfedhifkaa
