/- The walk of FnFoldText. -/
import Derived.Test.YtcghlhjlfppllaaFold
import Derived.Test.YtcghlhjlfppllaaBytes
import Derived.Test.YtcghlhjlfppllaaEq
import Derived.Test.YtcghlhjlfppllaaLawV
namespace Go.Proofs.Ytcghlhjlfppllaa.pl
theorem get_data {s : ByteArray} {l : List UInt8} (h : s.data.toList = l) {i : Nat} (hi : i < s.size) : s[i] = l[i]'(by rw [← h, len_eq]; exact hi) := by
  subst h; rfl
def notRagged (s : ByteArray) : Prop := s.size = 0 ∨ ∃ (h0 : 0 < s.size), ¬ s[0] = 32 ∧ ¬ s[s.size - 1] = 32
theorem fold_ragged {s : ByteArray} (h : validT s.data.toList = true) : notRagged (foldB s) := by
  have hd : (foldB s).data.toList = Lib.join (wordsL s.data.toList) [32] := by rw [foldB_ok h, bs_data]
  have key : ∀ (l : List UInt8) (hl : 0 < l.length), l = Lib.join (wordsL s.data.toList) [32] → ¬ l[0] = 32 := by
    intro l hl e
    cases l with
    | nil => simp at hl
    | cons c r => exact join_head (wordsL_good _) e.symm
  have key2 : ∀ (l : List UInt8) (n : Nat) (hl : n < l.length), n + 1 = l.length → l = Lib.join (wordsL s.data.toList) [32] → ¬ l[n] = 32 := by
    intro l n hl hn e
    apply join_last (wordsL_good s.data.toList)
    rw [← e, List.getLast?_eq_getElem?, show l.length - 1 = n from by omega, List.getElem?_eq_getElem hl]
  by_cases h0 : (foldB s).size = 0
  · exact .inl h0
  · refine .inr ⟨by omega, ?_, ?_⟩
    · rw [get_data rfl]
      exact key _ (by rw [len_eq]; omega) hd
    · rw [get_data rfl]
      exact key2 _ _ _ (by rw [len_eq]; omega) hd
end Go.Proofs.Ytcghlhjlfppllaa.pl
namespace Go.Proofs.Ytcghlhjlfppllaa
open Go.RowKit

theorem equalTexts_same (l : List ByteArray) (va vb : Value) (w : World) (hA : RStrs w va l) (hB : RStrs w vb l) (hl : l.length ≤ 2000000) :
    Calls Try.prog 18 #[va, vb] w fun e w' => e = .returned (.bool true) ∧ Below w.heap.size w w' :=
  (equalTexts_any l l va vb w hA hB hl).mono fun e w' ⟨h1, h2⟩ => ⟨by rw [h1]; simp, h2⟩

set_option maxHeartbeats 2000000 in
theorem fnFoldText_walk (a : Option Addr) (len cap : Nat) (zs : List Int) (w : World) (hr : IsRow .u8 w a len cap zs) :
    Calls Try.prog 5 #[.slice a len cap] w fun e w' => e = .returned (.bool true) ∧ Below w.heap.size w w' := by
  have hlen := row_len hr
  by_cases hb : 1048576 < len
  · go_enter Try.func5, Try.ntmps5
    go_wp2
    go_ret
    exact ⟨rfl, Below.refl _ _⟩
  · go_enter Try.func5, Try.ntmps5
    go_wp2_with fail
    refine (dFoldText_any a len cap zs _ hr).mono ?_
    rintro e w1 ⟨s, rfl, hs, hb1⟩
    have hsm : s.size ≤ maxLen := by unfold maxLen; omega
    go_wp2_with fail
    refine (iFoldText_any s _ hsm).mono ?_
    rintro e w2 ⟨rfl, hb2⟩
    have b2 := Lib.hid (hb1.trans (hb2.mono hb1.size))
    go_wp2_with fail
    refine (sFoldText_any s _ hsm).mono ?_
    rintro e w3 ⟨rfl, hb3⟩
    have b3 := Lib.hid (b2.out.trans (hb3.mono b2.out.size))
    go_wp2_with fail
    refine (iValidText_any s _ hsm).mono ?_
    rintro e w4 ⟨rfl, hb4⟩
    have b4 := Lib.hid (b3.out.trans (hb4.mono b3.out.size))
    clear hb1 hb2 hb3 hb4
    by_cases hv : pl.validT s.data.toList = true
    · have hoz := pl.foldB_size s
      have ho1 := pl.fold_fold hv
      have ho2 := Lib.hid (pl.fold_words hv)
      have ho3 := Lib.hid (pl.fold_ragged hv)
      have hwl := pl.wordsOf_len s
      obtain ⟨o, ho⟩ : ∃ o, Hid (pl.foldB s = o) := ⟨_, Lib.hid rfl⟩
      rw [ho.out] at hoz ho1 ho2 ho3 ⊢
      have HO := Lib.hid ho1
      clear ho1
      have hom : o.size ≤ maxLen := by unfold maxLen; omega
      go_wp2_with fail
      refine (iFoldText_any o _ hom).mono ?_
      rintro e w5 ⟨rfl, hb5⟩
      have b5 := Lib.hid (b4.out.trans (hb5.mono b4.out.size))
      rw [HO.out]
      go_wp2_with fail
      refine (iWordsOf_any o _ hom).mono ?_
      rintro e w6 ⟨v1, rfl, hv1, hb6⟩
      have b6 := Lib.hid (b5.out.trans (hb6.mono b5.out.size))
      rw [ho2.out] at hv1
      go_wp2_with fail
      refine (iWordsOf_any s _ hsm).mono ?_
      rintro e w7 ⟨v2, rfl, hv2, hb7⟩
      have b7 := Lib.hid (b6.out.trans (hb7.mono b6.out.size))
      have hv1' := OStrs.below hv1 (Nat.le_refl _) hb7
      go_wp2_with fail
      refine (equalTexts_same _ _ _ _ hv1'.reads hv2.reads (by omega)).mono ?_
      rintro e w8 ⟨rfl, hb8⟩
      have b8 := Lib.hid (b7.out.trans (hb8.mono b7.out.size))
      clear hb5 hb6 hb7 hb8 hv1 hv2 hv1'
      go_wp2_with fail
      refine (ragged_no o _ (by omega) ho3.out).mono ?_
      rintro e w9 ⟨rfl, rfl⟩
      go_wp2_with fail
      go_ret
      exact ⟨rfl, b8.out⟩
    · have hv' : pl.validT s.data.toList = false := by simpa using hv
      clear hv
      go_wp2_with fail
      refine (sFoldText_any s _ hsm).mono ?_
      rintro e w5 ⟨rfl, hb5⟩
      have b5 := Lib.hid (b4.out.trans (hb5.mono b4.out.size))
      go_wp2_with fail
      go_ret
      exact ⟨rfl, b5.out⟩
end Go.Proofs.Ytcghlhjlfppllaa
