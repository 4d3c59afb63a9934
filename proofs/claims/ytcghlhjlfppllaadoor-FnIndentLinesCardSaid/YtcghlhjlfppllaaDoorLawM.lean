/- DrawMarginOf, and the walk of FnMarginOf. -/
import Derived.Test.YtcghlhjlfppllaaDoorSomeLines
import Derived.Test.YtcghlhjlfppllaaDoorIndent
import Derived.Test.YtcghlhjlfppllaaDoorBytes
import Derived.Test.YtcghlhjlfppllaaDoorLawV
import Derived.Test.YtcghlhjlfppllaaDoorPlainN
import Derived.Test.YtcghlhjlfppllaaDoorWords
namespace Go.Proofs.YtcghlhjlfppllaaDoor
open Go.RowKit
set_option maxRecDepth 100000

set_option maxHeartbeats 1000000 in
theorem dMarginOf_any (a : Option Addr) (len cap : Nat) (zs : List Int) (w : World) (hr : IsRow .u8 w a len cap zs) :
    Calls Tryd.prog 15 #[.slice a len cap] w fun e w' => ∃ v l, e = .returned v ∧ OStrs w.heap.size w' v l ∧ l.length ≤ 6 ∧ few 120 l ∧ Below w.heap.size w w' := by
  go_enter Tryd.func15, Tryd.ntmps15
  go_wp2_with fail
  refine (newReader_any a len cap zs _ hr).mono ?_
  rintro e w1 ⟨n, c, rfl, hR, hb1⟩
  go_wp2_with fail
  refine (someLines_any _ _ n c 0 a _ hR (by omega)).mono ?_
  rintro e w2 ⟨v, l, rfl, ho, hl, hf, p', _, _, hg⟩
  go_wp2_with fail
  go_ret
  exact ⟨v, l, rfl, ho.mono hb1.size, hl, hf, hb1.grown hg hb1.size (fun k hk => by cases hk; exact Nat.le_refl _)⟩

set_option maxHeartbeats 1000000 in
theorem dDedentLines_any (a : Option Addr) (len cap : Nat) (zs : List Int) (w : World) (hr : IsRow .u8 w a len cap zs) :
    Calls Tryd.prog 21 #[.slice a len cap] w fun e w' => ∃ v l, e = .returned v ∧ OStrs w.heap.size w' v l ∧ l.length ≤ 6 ∧ few 120 l ∧ Below w.heap.size w w' := by
  go_enter Tryd.func21, Tryd.ntmps21
  go_wp2_with fail
  refine (newReader_any a len cap zs _ hr).mono ?_
  rintro e w1 ⟨n, c, rfl, hR, hb1⟩
  go_wp2_with fail
  refine (someLines_any _ _ n c 0 a _ hR (by omega)).mono ?_
  rintro e w2 ⟨v, l, rfl, ho, hl, hf, p', _, _, hg⟩
  go_wp2_with fail
  go_ret
  exact ⟨v, l, rfl, ho.mono hb1.size, hl, hf, hb1.grown hg hb1.size (fun k hk => by cases hk; exact Nat.le_refl _)⟩

set_option maxHeartbeats 1000000 in
theorem dIndentLines_any (a : Option Addr) (len cap : Nat) (zs : List Int) (w : World) (hr : IsRow .u8 w a len cap zs) :
    Calls Tryd.prog 25 #[.slice a len cap] w fun e w' => ∃ (v : Value) (l : List ByteArray) (x : Int), e = .returned (.tuple #[v, .int .i64 x]) ∧ OStrs w.heap.size w' v l ∧ l.length ≤ 6 ∧ few 120 l ∧ -1 ≤ x ∧ x ≤ 11 ∧ Below w.heap.size w w' := by
  go_enter Tryd.func25, Tryd.ntmps25
  go_wp2_with fail
  refine (newReader_any a len cap zs _ hr).mono ?_
  rintro e w1 ⟨n, c, rfl, hR, hb1⟩
  go_wp2_with fail
  refine (someLines_any _ _ n c 0 a _ hR (by omega)).mono ?_
  rintro e w2 ⟨v, l, rfl, ho, hl, hf, p2, hp2, hR2, hg2⟩
  have b2 := Lib.hid (hb1.grown hg2 hb1.size (fun k hk => by cases hk; exact Nat.le_refl _))
  have HO := Lib.hid ho
  have S1 := Lib.hid hb1.size
  clear ho
  go_wp2_with fail
  refine (one_lit (-1) 11 7 _ rfl (by omega) (by omega) ?_ _ _ n c p2 a _ hR2 (by omega)).mono ?_
  · simp [okInts]
  rintro e w3 ⟨x, rfl, hx0, hx6, p3, hp3, hR3, hg3⟩
  have b3 := Lib.hid (b2.out.grown hg3 b2.out.size (fun k hk => by cases hk; exact Nat.le_refl _))
  have HO3 := Lib.hid (HO.out.read hg3 hR.lt)
  go_wp2_with fail
  go_ret2
  exact ⟨v, l, x, rfl, HO3.out.mono S1.out, hl, hf, hx0, hx6, b3.out⟩

theorem pl.dedR_len2 (l : List ByteArray) : (pl.dedR l).length ≤ l.length := by
  unfold pl.dedR; split
  · rw [pl.ded_len]; exact Nat.le_refl _
  · exact Nat.zero_le _

set_option maxHeartbeats 2000000 in
theorem fnMarginOf_walk (a : Option Addr) (len cap : Nat) (zs : List Int) (w : World) (hr : IsRow .u8 w a len cap zs) :
    Calls Tryd.prog 4 #[.slice a len cap] w fun e w' => e = .returned (.bool true) ∧ Below w.heap.size w w' := by
  have hlen := row_len hr
  by_cases hb : 1048576 < len
  · go_enter Tryd.func4, Tryd.ntmps4
    go_wp2
    go_ret
    exact ⟨rfl, Below.refl _ _⟩
  · go_enter Tryd.func4, Tryd.ntmps4
    go_wp2_with fail
    refine (dMarginOf_any a len cap zs _ hr).mono ?_
    rintro e w1 ⟨v, l, rfl, ho, hl, hf, hb1⟩
    have HO1 := Lib.hid ho
    have HB1 := Lib.hid hb1
    have HLN : Hid (l.length ≤ 1048576) := Lib.hid (by omega)
    have HSZ : Hid (∀ i, i < l.length → (nth l i).size ≤ 1048576) := Lib.hid (fun i hi => by have := hf i hi; omega)
    have HF := Lib.hid hf
    clear ho hb1 hf
    go_wp2_with fail
    refine (iMarginOf_any l v _ HO1.out.reads HLN.out HSZ.out).mono ?_
    rintro e w2 ⟨rfl, hb2⟩
    have HO2 := Lib.hid (HO1.out.below (Nat.le_refl _) hb2)
    have HB2 := Lib.hid (HB1.out.trans (hb2.mono HB1.out.size))
    clear hb2
    by_cases hv : pl.validLs l = true
    · have hme := Lib.hid (pl.marginB_at hv)
      have hmb := pl.margin_bd hv
      have hdm := Lib.hid (pl.dedR_margin hv)
      have hle : Hid (∀ i, i < l.length → pl.ld (nth l i) < (nth l i).size → (pl.marginL l).toNat ≤ pl.ld (nth l i)) := Lib.hid (fun i hi h => pl.margin_le hi h)
      obtain ⟨m, HM⟩ : ∃ m, Hid ((pl.marginL l).toNat = m) := ⟨_, Lib.hid rfl⟩
      rw [HM.out] at hme hmb hle
      clear hv
      rw [hme.out]
      go_wp2_with fail
      refine (sMarginOf_any l v _ HO2.out.reads HLN.out HSZ.out).mono ?_
      rintro e w' ⟨rfl, rfl⟩
      rw [hme.out]
      obtain ⟨n, hn⟩ : ∃ n, n = l.length := ⟨_, rfl⟩
      have HN := Lib.hid hn
      have hrr := Lib.hid HO2.out.reads
      obtain ⟨a0, cap0, hve⟩ := HO2.out.reads.slice
      subst hve
      rw [← hn] at hrr hl ⊢
      clear hn
      go_wp2_with fail
      go_loopw [5] (fun iv wr => ∃ k : Nat, k ≤ n ∧ iv = .int .i64 k ∧ Below w2.heap.size w2 wr) (fun iv _ => n - (intOf iv).toNat)
      case atStart => exact ⟨0, Nat.zero_le _, rfl, Below.refl _ _⟩
      case round =>
        obtain ⟨k, hk, rfl, hbel⟩ := hrel
        have HBEL := Lib.hid hbel
        clear hbel
        by_cases hlt : k < n
        · have hkl : Hid (k < l.length) := Lib.hid (by rw [← HN.out]; exact hlt)
          obtain ⟨b1, o1, rfl, hx⟩ := hrr.out.at HN.out HBEL.out hlt
          have hxm := HF.out k hkl.out
          have hlk := hle.out k hkl.out
          obtain ⟨x, HX⟩ : ∃ x, Hid (nth l k = x) := ⟨_, Lib.hid rfl⟩
          rw [HX.out] at hx hxm hlk
          go_wp2_with fail
          refine (iWordsOf_any x _ (by unfold maxLen; omega)).mono ?_
          rintro e wr2 ⟨vw, rfl, how, hbw⟩
          obtain ⟨aw, cw, hvw⟩ := how.reads.slice
          subst hvw
          clear how hx
          have HB4 := Lib.hid (HBEL.out.trans (hbw.mono HBEL.out.size))
          obtain ⟨_, _, he2, hx⟩ := hrr.out.at HN.out HB4.out hlt
          cases he2
          rw [HX.out] at hx
          clear hbw
          by_cases hq : (pl.wordsOf x).length = 0
          · obtain ⟨q, HQ⟩ : ∃ q, Hid ((pl.wordsOf x).length = q) := ⟨_, Lib.hid rfl⟩
            rw [HQ.out] at hq ⊢
            have hq2 : ¬ (0 : Int) < (q : Int) := by omega
            clear hq hlk
            go_wp2_with fail
            go_roundw
            case rel => exact ⟨k + 1, by omega, by go_num, HB4.out⟩
            case measure => simp [intOf]; omega
          · have hnb : pl.ld x < x.size := by
              by_cases e : x.size ≤ pl.ld x
              · rw [pl.blank_words e] at hq; exact absurd rfl hq
              · omega
            have hmx := hlk hnb
            have hldx := pl.ld_le x
            have hex := Lib.hid (pl.ahead_sp hmx)
            have hms : m ≤ x.size := by omega
            obtain ⟨q, HQ⟩ : ∃ q, Hid ((pl.wordsOf x).length = q) := ⟨_, Lib.hid rfl⟩
            rw [HQ.out] at hq ⊢
            have hq2 : (0 : Int) < (q : Int) := by omega
            have hls : ¬ (x.size : Int) < (m : Int) := by omega
            clear hq hlk hnb hmx hldx
            go_wp2_with fail
            refine (without_at _ 32 32 rfl _ (by simp only [ByteArray.size_extract]; omega)).mono ?_
            rintro e w' ⟨rfl, rfl⟩
            rw [hex.out]
            go_wp2_with fail
            go_roundw
            case rel => exact ⟨k + 1, by omega, by go_num, HB4.out⟩
            case measure => simp [intOf]; omega
        · obtain rfl : k = n := by omega
          have HB3 := Lib.hid (HB2.out.trans (HBEL.out.mono HB2.out.size))
          go_wp2_with fail
          refine (iDedent_any l _ _ (hrr.out.below (Nat.le_refl _) HBEL.out) HLN.out HSZ.out).mono ?_
          rintro e w5 ⟨v5, rfl, ho5, hb5⟩
          have HO5 := Lib.hid ho5
          have HB5 := Lib.hid (HB3.out.trans (hb5.mono HB3.out.size))
          clear ho5 hb5
          go_wp2_with fail
          refine (iMarginOf_any (pl.dedR l) v5 _ HO5.out.reads (Nat.le_trans (pl.dedR_len2 l) HLN.out) (pl.dedR_size _ HSZ.out)).mono ?_
          rintro e w6 ⟨rfl, hb6⟩
          rw [hdm.out]
          have HB6 := Lib.hid (HB5.out.trans (hb6.mono HB5.out.size))
          clear hb6
          go_wp2_with fail
          go_ret
          exact ⟨rfl, HB6.out⟩
    · have hv' : pl.validLs l = false := by simpa using hv
      have hme := Lib.hid (pl.marginB_no hv')
      clear hv hv'
      rw [hme.out]
      go_wp2_with fail
      refine (sMarginOf_any l v _ HO2.out.reads HLN.out HSZ.out).mono ?_
      rintro e w' ⟨rfl, rfl⟩
      rw [hme.out]
      go_wp2_with fail
      refine (sMarginOf_any l v _ HO2.out.reads HLN.out HSZ.out).mono ?_
      rintro e w' ⟨rfl, rfl⟩
      rw [hme.out]
      go_wp2_with fail
      go_ret
      exact ⟨rfl, HB2.out⟩
end Go.Proofs.YtcghlhjlfppllaaDoor
