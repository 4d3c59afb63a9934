/- Contract: the model's ShortenText. -/
import Derived.Test.YtoeejepamlnkkaaShort
namespace Go.Proofs.Ytoeejepamlnkkaa
open Go.RowKit
set_option maxRecDepth 100000

set_option maxHeartbeats 2000000 in
theorem sShort_any (s sg : ByteArray) (wd : Int) (w : World) (hs : s.size ≤ maxLen) (hsg : sg.size ≤ maxLen) :
    Calls Try.prog 21 #[.string s, .int .i64 wd, .string sg] w fun e w' => e = .returned (.tuple #[.string (pl.shortB s wd sg), .bool (pl.shortOK s wd sg)]) ∧ Below w.heap.size w w' := by
  by_cases hv : pl.validT s.data.toList = true
  · by_cases hv2 : pl.validT sg.data.toList = true
    · by_cases hin : pl.inR wd 0 120 = true
      · have hsz := pl.validT_size hv
        have hsgz := pl.validT_size hv2
        obtain ⟨hw0, hw1⟩ : 0 ≤ wd ∧ wd ≤ 120 := by simpa [pl.inR] using hin
        have hwo := Lib.hid (pl.wordsOf_ok hv).symm
        have HV := Lib.hid hv
        have HV2 := Lib.hid hv2
        have HI := Lib.hid hin
        have hf120 := pl.foldB_size120 s
        have hfj : Hid (pl.joinB (pl.wordsB s) ⟨#[32]⟩ = pl.foldB s) := Lib.hid (by rw [hwo.out]; rfl)
        obtain ⟨F, HF⟩ : ∃ F, Hid (pl.foldB s = F) := ⟨_, Lib.hid rfl⟩
        rw [HF.out] at hf120 hfj
        have hL120 := pl.wordsOf_len s
        obtain ⟨L, HL⟩ : ∃ L, Hid ((pl.wordsOf s).length = L) := ⟨_, Lib.hid rfl⟩
        rw [HL.out] at hL120
        clear hv hv2 hin
        go_enter Try.func21, Try.ntmps21
        go_wp2_with fail
        refine (svalidText_any _ _ hs).mono ?_
        rintro e w' ⟨rfl, rfl⟩
        rw [HV.out]
        go_wp2_with fail
        refine (svalidText_any _ _ hsg).mono ?_
        rintro e w' ⟨rfl, rfl⟩
        rw [HV2.out]
        go_wp2_with fail
        refine (inRange_any _ _ _ _).mono ?_
        rintro e w' ⟨rfl, rfl⟩
        rw [HI.out]
        go_wp2_with fail
        refine (swords_any s _ hsz).mono ?_
        rintro e w1 ⟨v1, rfl, ho1, hb1⟩
        rw [hwo.out] at ho1
        have HB1 := Lib.hid hb1
        have HR := Lib.hid ho1.reads
        clear hb1
        go_wp2_with fail
        refine (sjoin_any (pl.wordsOf s) ⟨#[32]⟩ _ _ HR.out (by rw [HL.out]; omega) (by rw [← hwo.out, hfj.out]; omega)).mono ?_
        rintro e w' ⟨rfl, rfl⟩
        rw [← hwo.out, hfj.out]
        by_cases hfit : (F.size : Int) ≤ wd
        · have he := Lib.hid (pl.shortOK_yes HV.out HV2.out HI.out (.inl (by rw [HF.out]; exact hfit)))
          have hb := Lib.hid ((pl.shortB_fold he.out (by rw [HF.out]; exact hfit)).trans HF.out)
          clear ho1
          go_wp2_with fail
          refine (sjoin_any (pl.wordsOf s) ⟨#[32]⟩ _ _ HR.out (by rw [HL.out]; omega) (by rw [← hwo.out, hfj.out]; omega)).mono ?_
          rintro e w' ⟨rfl, rfl⟩
          rw [← hwo.out, hfj.out]
          go_wp2_with fail
          go_ret2
          exact ⟨by rw [he.out, hb.out]; rfl, HB1.out⟩
        · have hst := Lib.hid (pl.dn_start (s := s) (wd := wd) (sg := sg) (by rw [HF.out]; omega))
          have hover : Hid (wd < ((pl.foldB s).size : Int)) := Lib.hid (by rw [HF.out]; omega)
          have hLpos : 0 < L := by
            rcases Nat.eq_zero_or_pos L with h | h
            · exfalso
              have h1 : pl.wordsOf s = [] := List.length_eq_zero_iff.1 (HL.out.trans h)
              have h2 := hover.out
              rw [pl.fold_szJ, h1] at h2
              unfold pl.szJ at h2
              rw [pl.joinB_nil, pl.bs_size] at h2
              simp at h2; omega
            · exact h
          rcases ho1.2 with ⟨_, hn0⟩ | ⟨g, cap, cur, rfl, hB, hg, hle, hm, hsq, htake⟩
          · rw [HL.out] at hn0; omega
          · clear hg hsq htake ho1
            rw [HL.out] at hle HR ⊢
            go_wp2_with fail
            go_loop [9] (fun kv => ∃ (j : Nat) (kk : Int), kv = .int .i64 kk ∧ Hid (kk = (j : Int) - 1) ∧ -1 ≤ kk ∧ kk < L ∧ Hid (pl.dnInv s wd sg j)) (fun kv => (intOf kv + 1).toNat)
            case atStart => exact ⟨L, (L : Int) - 1, rfl, Lib.hid rfl, by omega, by omega, Lib.hid (by rw [← HL.out]; exact hst.out)⟩
            case round =>
              obtain ⟨j, kk, rfl, hkk, hk1, hk2, hinv⟩ := hrel
              by_cases hneg : 0 ≤ kk
              · obtain ⟨i, rfl⟩ := Int.eq_ofNat_of_zero_le hneg
                have hji : Hid (j = i + 1) := Lib.hid (by have := hkk.out; omega)
                have hinv1 : Hid (pl.dnInv s wd sg (i + 1)) := Lib.hid (by rw [← hji.out]; exact hinv.out)
                have hiL : i < L := by omega
                have hcap : (i : Int) ≤ cap := by omega
                obtain ⟨J, HJ⟩ : ∃ J, Hid (pl.joinB ((pl.wordsOf s).take i) ⟨#[32]⟩ = J) := ⟨_, Lib.hid rfl⟩
                have hJb : J.size ≤ 120 := by
                  have h1 := pl.szJ_upto (l := pl.wordsOf s) (j := i) (k := L) (by omega)
                  have h2 : J.size = pl.szJ ((pl.wordsOf s).take i) := by rw [← HJ.out]; rfl
                  have h3 : pl.szJ ((pl.wordsOf s).take L) = F.size := by rw [← HL.out, List.take_length, ← pl.fold_szJ, HF.out]
                  omega
                have hJn : Hid (pl.jn (pl.wordsOf s) pl.sp1 i = J) := Lib.hid (by rw [← HJ.out]; rfl)
                have HRp := Lib.hid (HR.out.pre (k := i) (by rw [HL.out]; omega))
                have hLi : Hid (((pl.wordsOf s).take i).length ≤ 2000000) := Lib.hid (by rw [List.length_take]; omega)
                clear hkk hinv
                go_wp2_with fail
                refine (sjoin_any ((pl.wordsOf s).take i) ⟨#[32]⟩ _ _ HRp.out hLi.out (by rw [HJ.out]; omega)).mono ?_
                rintro e w' ⟨rfl, rfl⟩
                rw [HJ.out]
                by_cases hok : (J.size : Int) + (sg.size : Int) ≤ wd
                · have hn := Lib.hid (pl.dn_found hinv1.out (by rw [hJn.out, ByteArray.size_append]; omega))
                  have he : Hid (pl.shortOK s wd sg = true) := Lib.hid (pl.shortOK_yes HV.out HV2.out HI.out (.inr (by omega)))
                  have hb : Hid (pl.shortB s wd sg = J ++ sg) := Lib.hid (by
                    rw [pl.shortB_cut he.out hover.out]
                    unfold pl.shortC
                    rw [hn.out]
                    exact congrArg (· ++ sg) HJ.out)
                  go_wp2_with fail
                  go_ret2
                  exact ⟨by rw [he.out, hb.out]; rfl, HB1.out⟩
                · have hn := Lib.hid (pl.dn_next hinv1.out (by rw [hJn.out, ByteArray.size_append]; omega))
                  go_wp2_with fail
                  go_round
                  case rel => exact ⟨i, _, rfl, Lib.hid rfl, by omega, by omega, hn⟩
                  case measure => simp [intOf]
              · have hj0 : Hid (j = 0) := Lib.hid (by have := hkk.out; omega)
                have hlong : Hid (wd < (sg.size : Int)) := Lib.hid (pl.dn_end (by rw [← hj0.out]; exact hinv.out))
                have he := Lib.hid (pl.shortOK_no (s := s) (wd := wd) (sg := sg) (.inr (.inr (.inr ⟨hover.out, hlong.out⟩))))
                have hb := Lib.hid (pl.shortB_no he.out)
                clear hkk hinv
                go_wp2_with fail
                go_ret2
                exact ⟨by rw [he.out, hb.out]; rfl, HB1.out⟩
      · have hin' : pl.inR wd 0 120 = false := by simpa using hin
        have he := Lib.hid (pl.shortOK_no (s := s) (wd := wd) (sg := sg) (.inr (.inr (.inl hin'))))
        have hb := Lib.hid (pl.shortB_no he.out)
        clear hin
        go_enter Try.func21, Try.ntmps21
        go_wp2_with fail
        refine (svalidText_any _ _ hs).mono ?_
        rintro e w' ⟨rfl, rfl⟩
        rw [hv]
        go_wp2_with fail
        refine (svalidText_any _ _ hsg).mono ?_
        rintro e w' ⟨rfl, rfl⟩
        rw [hv2]
        go_wp2_with fail
        refine (inRange_any _ _ _ _).mono ?_
        rintro e w' ⟨rfl, rfl⟩
        rw [hin']
        go_wp2_with fail
        go_ret2
        exact ⟨by rw [he.out, hb.out]; rfl, Below.refl _ _⟩
    · have hv2' : pl.validT sg.data.toList = false := by simpa using hv2
      have he := Lib.hid (pl.shortOK_no (s := s) (wd := wd) (sg := sg) (.inr (.inl hv2')))
      have hb := Lib.hid (pl.shortB_no he.out)
      clear hv2
      go_enter Try.func21, Try.ntmps21
      go_wp2_with fail
      refine (svalidText_any _ _ hs).mono ?_
      rintro e w' ⟨rfl, rfl⟩
      rw [hv]
      go_wp2_with fail
      refine (svalidText_any _ _ hsg).mono ?_
      rintro e w' ⟨rfl, rfl⟩
      rw [hv2']
      go_wp2_with fail
      go_ret2
      exact ⟨by rw [he.out, hb.out]; rfl, Below.refl _ _⟩
  · have hv' : pl.validT s.data.toList = false := by simpa using hv
    have he := Lib.hid (pl.shortOK_no (s := s) (wd := wd) (sg := sg) (.inl hv'))
    have hb := Lib.hid (pl.shortB_no he.out)
    clear hv
    go_enter Try.func21, Try.ntmps21
    go_wp2_with fail
    refine (svalidText_any _ _ hs).mono ?_
    rintro e w' ⟨rfl, rfl⟩
    rw [hv']
    go_wp2_with fail
    go_ret2
    exact ⟨by rw [he.out, hb.out]; rfl, Below.refl _ _⟩
end Go.Proofs.Ytoeejepamlnkkaa
