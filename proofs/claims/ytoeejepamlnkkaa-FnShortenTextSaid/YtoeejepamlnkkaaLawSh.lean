/- DrawShortenText, and the walk of FnShortenText. -/
import Derived.Test.YtoeejepamlnkkaaShortS
import Derived.Test.YtoeejepamlnkkaaDraw3
import Derived.Test.YtoeejepamlnkkaaLawV
import Derived.Test.YtoeejepamlnkkaaEq
namespace Go.Proofs.Ytoeejepamlnkkaa
open Go.RowKit
set_option maxRecDepth 100000

namespace pl
theorem ex_left (a b : ByteArray) : (a ++ b).extract 0 a.size = a := by
  apply ba_ext
  rw [Lib.extract_data, ByteArray.data_append, Array.toList_append, List.drop_zero, Nat.sub_zero, ← len_eq a, List.take_left]
theorem ex_right (a b : ByteArray) : (a ++ b).extract a.size (a ++ b).size = b := by
  apply ba_ext
  rw [Lib.extract_data, ByteArray.data_append, Array.toList_append, ByteArray.size_append, ← len_eq a, List.drop_left, List.take_of_length_le]
  rw [← len_eq b]; omega
theorem jn_pre (l : List ByteArray) (mid : ByteArray) {k : Nat} (hk : 0 < k) : ∀ d, k + d ≤ l.length → ∃ t, (jn l mid (k + d)).data.toList = (jn l mid k).data.toList ++ t
  | 0, _ => ⟨[], by simp⟩
  | d + 1, h => by
    obtain ⟨t, ht⟩ := jn_pre l mid hk d (by omega)
    refine ⟨t ++ mid.data.toList ++ (nth l (k + d)).data.toList, ?_⟩
    rw [← Nat.add_assoc, jn_succ mid (by omega) (by omega)]
    simp only [ByteArray.data_append, Array.toList_append, ht, List.append_assoc]
/-- a folded text begins with the words that are taken, and has a space behind them -/
theorem full_cut {l : List ByteArray} {n : Nat} (h0 : 0 < n) (hn : n < l.length) : ∃ t, (joinB l sp1).data.toList = (joinB (l.take n) sp1).data.toList ++ 32 :: t := by
  obtain ⟨t, ht⟩ := jn_pre l sp1 (k := n + 1) (by omega) (l.length - (n + 1)) (by omega)
  rw [Nat.add_sub_cancel' (by omega), jn_all] at ht
  refine ⟨(nth l n).data.toList ++ t, ?_⟩
  rw [ht, jn_succ sp1 h0 hn]
  simp only [ByteArray.data_append, Array.toList_append, List.append_assoc]
  rfl
theorem cut_get {F J : ByteArray} {t : List UInt8} (h : F.data.toList = J.data.toList ++ 32 :: t) : ∃ hk : J.size < F.size, F[J.size] = 32 ∧ F.extract 0 J.size = J := by
  have hs : F.size = J.size + (t.length + 1) := by
    have := congrArg List.length h
    rw [len_eq, List.length_append, len_eq] at this; simpa using this
  have hk : J.size < F.size := by omega
  refine ⟨hk, ?_, ?_⟩
  · have h1 := get_some hk
    rw [h, List.getElem?_append_right (by rw [len_eq]; exact Nat.le_refl _), len_eq, Nat.sub_self] at h1
    exact (Option.some.inj h1).symm
  · apply ba_ext
    rw [Lib.extract_data, h, List.drop_zero, Nat.sub_zero, ← len_eq J, List.take_left]
end pl

set_option maxHeartbeats 2000000 in
theorem dShortenText_any (a : Option Addr) (len cap : Nat) (zs : List Int) (w : World) (hr : IsRow .u8 w a len cap zs) :
    Calls Try.prog 19 #[.slice a len cap] w fun e w' => ∃ (s sg : ByteArray) (x : Int), e = .returned (.tuple #[.string s, .int .i64 x, .string sg]) ∧ s.size ≤ 200 ∧ sg.size ≤ 7 ∧ -1 ≤ x ∧ x ≤ 121 ∧ Below w.heap.size w w' := by
  go_enter Try.func19, Try.ntmps19
  go_wp2_with fail
  refine (newReader_any a len cap zs _ hr).mono ?_
  rintro e w1 ⟨n, c, rfl, hR, hb1⟩
  go_wp2_with fail
  refine (someText_any _ _ n c 0 a _ hR (by omega)).mono ?_
  rintro e w2 ⟨s, rfl, hs, p2, hp2, hR2, hg2⟩
  have b2 := Lib.hid (hb1.grown hg2 hb1.size (fun k hk => by cases hk; exact Nat.le_refl _))
  go_wp2_with fail
  refine (one_lit (-1) 121 10 _ rfl (by omega) (by omega) ?_ _ _ n c p2 a _ hR2 (by omega)).mono ?_
  · simp [okInts]
  rintro e w3 ⟨x, rfl, hx0, hx6, p3, hp3, hR3, hg3⟩
  have b3 := Lib.hid (b2.out.grown hg3 b2.out.size (fun k hk => by cases hk; exact Nat.le_refl _))
  go_wp2_with fail
  refine (of_lit 7 6 _ rfl (by omega) (by omega) ?_ _ _ n c p3 a _ hR3 (by omega)).mono ?_
  · simp [okStrs, ByteArray.size_mk']
  rintro e w4 ⟨sg, rfl, hsg, p4, hp4, hR4, hg4⟩
  have b4 := Lib.hid (b3.out.grown hg4 b3.out.size (fun k hk => by cases hk; exact Nat.le_refl _))
  go_wp2_with fail
  go_ret3
  exact ⟨s, sg, x, rfl, hs, hsg, hx0, hx6, b4.out⟩

set_option maxHeartbeats 4000000 in
theorem fnShortenText_walk (a : Option Addr) (len cap : Nat) (zs : List Int) (w : World) (hr : IsRow .u8 w a len cap zs) :
    Calls Try.prog 4 #[.slice a len cap] w fun e w' => e = .returned (.bool true) ∧ Below w.heap.size w w' := by
  have hlen := row_len hr
  by_cases hb : 1048576 < len
  · go_enter Try.func4, Try.ntmps4
    go_wp2
    go_ret
    exact ⟨rfl, Below.refl _ _⟩
  · go_enter Try.func4, Try.ntmps4
    go_wp2_with fail
    refine (dShortenText_any a len cap zs _ hr).mono ?_
    rintro e w1 ⟨s, sg, x, rfl, hs, hsg, hx0, hx1, hb1⟩
    have hsm : s.size ≤ maxLen := by unfold maxLen; omega
    have hsgm : sg.size ≤ maxLen := by unfold maxLen; omega
    obtain ⟨O, HO⟩ : ∃ O, Hid (pl.shortB s x sg = O) := ⟨_, Lib.hid rfl⟩
    obtain ⟨K, HK⟩ : ∃ K, Hid (pl.shortOK s x sg = K) := ⟨_, Lib.hid rfl⟩
    go_wp2_with fail
    refine (iShort_any s sg x _ hsm hsgm).mono ?_
    rintro e w2 ⟨rfl, hb2⟩
    rw [HO.out, HK.out]
    have b2 := Lib.hid (hb1.trans (hb2.mono hb1.size))
    clear hb1 hb2
    go_wp2_with fail
    refine (sShort_any s sg x _ hsm hsgm).mono ?_
    rintro e w3 ⟨rfl, hb3⟩
    rw [HO.out, HK.out]
    have b3 := Lib.hid (b2.out.trans (hb3.mono b2.out.size))
    clear hb3
    cases K with
    | false =>
      go_wp2_with fail
      go_ret
      exact ⟨rfl, b3.out⟩
    | true =>
      obtain ⟨F, HF⟩ : ∃ F, Hid (pl.foldB s = F) := ⟨_, Lib.hid rfl⟩
      have hf120 := pl.foldB_size120 s
      rw [HF.out] at hf120
      by_cases hfit : (F.size : Int) ≤ x
      · have hOF : O = F := by rw [← HO.out, ← HF.out]; exact pl.shortB_fold HK.out (by rw [HF.out]; exact hfit)
        subst hOF
        go_wp2_with fail
        refine (iFoldText_any s _ hsm).mono ?_
        rintro e w4 ⟨rfl, hb4⟩
        rw [HF.out]
        have b4 := Lib.hid (b3.out.trans (hb4.mono b3.out.size))
        clear hb4
        go_wp2_with fail
        go_ret
        exact ⟨rfl, b4.out⟩
      · have hsl : (sg.size : Int) ≤ x := by
          rcases Int.lt_or_le x (sg.size : Int) with h | h
          · exfalso
            have := pl.shortOK_no (s := s) (wd := x) (sg := sg) (.inr (.inr (.inr ⟨by rw [HF.out]; omega, h⟩)))
            rw [HK.out] at this; cases this
          · exact h
        have hlt := pl.short_lt (s := s) (wd := x) (sg := sg) (by rw [HF.out]; omega) hsl
        obtain ⟨n, HN⟩ : ∃ n, Hid (pl.cfit (x - sg.size) (pl.wordsOf s) = n) := ⟨_, Lib.hid rfl⟩
        obtain ⟨J, HJ⟩ : ∃ J, Hid (pl.joinB ((pl.wordsOf s).take n) pl.sp1 = J) := ⟨_, Lib.hid rfl⟩
        have hJz := pl.szJ_cfit (x - sg.size) (pl.wordsOf s) (by omega)
        rw [HN.out] at hlt hJz
        have hJs : J.size = pl.szJ ((pl.wordsOf s).take n) := by rw [← HJ.out]; rfl
        have hJb : (J.size : Int) + sg.size ≤ x := by omega
        have hOJ : O = J ++ sg := by rw [← HO.out, pl.shortB_cut HK.out (by rw [HF.out]; omega)]; unfold pl.shortC; rw [HN.out, HJ.out]
        have hOz : O.size = J.size + sg.size := by rw [hOJ, ByteArray.size_append]
        have hO1 : O.size ≤ J.size + sg.size := by omega
        have hO2 : J.size + sg.size ≤ O.size := by omega
        have hsub : (O.size : Int) - (sg.size : Int) = (J.size : Int) := by omega
        have hexR : O.extract J.size O.size = sg := by rw [hOJ]; exact pl.ex_right J sg
        have hexL : O.extract 0 J.size = J := by rw [hOJ]; exact pl.ex_left J sg
        by_cases h0 : n = 0
        · have hJ0 : J.size = 0 := by rw [hJs, h0]; exact pl.szJ_zero _
          have hJe : Hid (J = ⟨#[]⟩) := Lib.hid (by rw [← HJ.out, h0, List.take_zero, pl.joinB_nil]; rfl)
          have hexF : Hid (F.extract 0 0 = ⟨#[]⟩) := Lib.hid (by simp; rfl)
          have hsub0 : Hid ((O.size : Int) - (sg.size : Int) = 0) := Lib.hid (by omega)
          have hO0 : Hid (O = sg) := Lib.hid (by rw [hOJ, hJe.out]; exact pl.nil_app sg)
          clear hOJ hOz hsub hexR hexL hO1 hO2 hJb hJs hJz HJ hJ0 h0
          have hOs := hO0.out
          subst hOs
          go_wp2_with fail
          refine (iFoldText_any s _ hsm).mono ?_
          rintro e w4 ⟨rfl, hb4⟩
          rw [HF.out]
          have b4 := Lib.hid (b3.out.trans (hb4.mono b3.out.size))
          clear hb4
          go_wp2_with fail
          go_quiet (fail)
          go_wp2
          go_ret
          exact ⟨rfl, b4.out.trans below_drewN⟩
        · obtain ⟨t, ht⟩ := pl.full_cut (l := pl.wordsOf s) (n := n) (by omega) hlt
          rw [HJ.out] at ht
          have hFj : pl.joinB (pl.wordsOf s) pl.sp1 = F := HF.out
          rw [hFj] at ht
          obtain ⟨hk, h32, hexF⟩ := pl.cut_get ht
          have h32i : (F[J.size].toNat : Int) = 32 := by rw [h32]; rfl
          have hOx : (O.size : Int) ≤ x := by omega
          have hkF : (J.size : Int) ≤ (F.size : Int) := by omega
          have hkO : (J.size : Int) ≤ (O.size : Int) := by omega
          have hk0 : (0 : Int) ≤ (J.size : Int) := by omega
          clear hOJ hOz h32 ht hFj hJs hJz hlt
          go_wp2_with fail
          refine (iFoldText_any s _ hsm).mono ?_
          rintro e w4 ⟨rfl, hb4⟩
          rw [HF.out]
          have b4 := Lib.hid (b3.out.trans (hb4.mono b3.out.size))
          clear hb4
          by_cases hz : J.size = 0
          · have hz1 : ((J.size : Int) == 0) = true := by rw [hz]; rfl
            clear hz
            go_wp2_with fail
            go_quiet (fail)
            go_wp2
            go_ret
            exact ⟨rfl, b4.out.trans below_drewN⟩
          · have hz1 : ((J.size : Int) == 0) = false := beq_eq_false_iff_ne.2 (by omega)
            clear hz
            go_wp2_with fail
            go_quiet (fail)
            go_wp2
            go_ret
            exact ⟨rfl, b4.out.trans below_drewN⟩
end Go.Proofs.Ytoeejepamlnkkaa
