/- Contracts: ShortenText of both sides. -/
import Derived.Test.YtoeejepamlnkkaaFit
import Derived.Test.YtoeejepamlnkkaaFold
import Derived.Test.YtoeejepamlnkkaaTexts
import Derived.Test.YtoeejepamlnkkaaPlainL
namespace Go.Proofs.Ytoeejepamlnkkaa
open Go.RowKit
set_option maxRecDepth 100000

theorem RStrs.pre {w : World} {b o n cap k : Nat} {l : List ByteArray} (h : RStrs w (.slice (some ⟨b, o, none⟩) n cap) l) (hk : k ≤ l.length) : RStrs w (.slice (some ⟨b, o, none⟩) k cap) (l.take k) := by
  by_cases h0 : k = 0
  · subst h0; exact .inl ⟨rfl, _, _, rfl⟩
  · rcases h with ⟨hz, _⟩ | ⟨hpos, b1, o1, c1, hvv, hb1, hc1⟩
    · rw [hz] at hk; simp at hk; omega
    · simp only [Value.slice.injEq] at hvv
      obtain ⟨hbo, _, _⟩ := hvv
      simp only [Option.some.injEq, Addr.mk.injEq, and_true] at hbo
      obtain ⟨rfl, rfl⟩ := hbo
      have hkl : (l.take k).length = k := by rw [List.length_take]; omega
      refine .inr ⟨by omega, _, _, cap, by rw [hkl], hb1, fun i hi => ?_⟩
      rw [hkl] at hi
      rw [hc1 i (by omega), nth_eq (by omega), nth_eq (by omega), List.getElem_take]
theorem joinPre (b o cap n k : Nat) (l : List ByteArray) (sep : ByteArray) (w : World) (h : RStrs w (.slice (some ⟨b, o, none⟩) n cap) l) (hn : n = l.length) (hcap : n ≤ cap) (hk : k ≤ n) (hl : l.length ≤ 2000000)
    (hsz : (pl.joinB (l.take k) sep).size ≤ 1000000000000) :
    Calls Try.prog 48 #[.slice (some ⟨b, o, none⟩) k cap, .string sep] w fun e w' => e = .returned (.string (pl.joinB (l.take k) sep)) ∧ Below w.heap.size w w' := by
  by_cases h0 : k = 0
  · subst h0
    refine (Try.strings_Join_none _ _ sep w).mono ?_
    rintro e w' ⟨rfl, rfl⟩
    exact ⟨rfl, Below.refl _ _⟩
  · have := joinAt b o cap n 0 k l sep w h hn hcap (by omega) (by omega) hl (by rw [List.drop_zero]; exact hsz)
    rw [List.drop_zero] at this
    exact this

namespace pl
theorem szJ_cfit (wd : Int) (l : List ByteArray) (h : 0 ≤ wd) : (szJ (l.take (cfit wd l)) : Int) ≤ wd := by
  by_cases h0 : 0 < cfit wd l
  · exact cfit_fits h0
  · have : cfit wd l = 0 := by omega
    rw [this, szJ_zero]; exact h
theorem wordsOf_mem {s x : ByteArray} (h : x ∈ wordsOf s) : x.size ≤ 120 := by
  by_cases hv : validT s.data.toList = true
  · have hsz := validT_size hv
    rw [wordsOf_ok hv] at h
    unfold wordsB at h
    obtain ⟨y, hy, rfl⟩ := List.mem_map.1 h
    have h1 := spl_len1 s.data.toList [] y hy
    rw [len_eq] at h1
    rw [bs_size]; simp at h1; omega
  · rw [wordsOf_no (by simpa using hv)] at h; simp at h
theorem wordsOf_nth (s : ByteArray) : ∀ i, i < (wordsOf s).length → (nth (wordsOf s) i).size ≤ 120 := by
  intro i hi
  rw [nth_eq hi]
  exact wordsOf_mem (List.getElem_mem hi)
end pl

set_option maxHeartbeats 2000000 in
theorem iShort_any (s sg : ByteArray) (wd : Int) (w : World) (hs : s.size ≤ maxLen) (hsg : sg.size ≤ maxLen) :
    Calls Try.prog 20 #[.string s, .int .i64 wd, .string sg] w fun e w' => e = .returned (.tuple #[.string (pl.shortB s wd sg), .bool (pl.shortOK s wd sg)]) ∧ Below w.heap.size w w' := by
  by_cases hv : pl.validT s.data.toList = true
  · by_cases hv2 : pl.validT sg.data.toList = true
    · by_cases hw0 : wd < 0
      · have he := Lib.hid (pl.shortOK_no (s := s) (wd := wd) (sg := sg) (.inr (.inr (.inl (pl.inR_false (.inl hw0))))))
        have hb := Lib.hid (pl.shortB_no he.out)
        go_enter Try.func20, Try.ntmps20
        go_wp2_with fail
        refine (iValidText_any _ _ hs).mono ?_
        rintro e w1 ⟨rfl, hb1⟩
        rw [hv]
        go_wp2_with fail
        refine (iValidText_any _ _ hsg).mono ?_
        rintro e w2 ⟨rfl, hb2⟩
        rw [hv2]
        have HB := Lib.hid (hb1.trans (hb2.mono hb1.size))
        clear hb1 hb2
        go_wp2_with fail
        go_ret2
        exact ⟨by rw [he.out, hb.out]; rfl, HB.out⟩
      · by_cases hw1 : 120 < wd
        · have he := Lib.hid (pl.shortOK_no (s := s) (wd := wd) (sg := sg) (.inr (.inr (.inl (pl.inR_false (.inr hw1))))))
          have hb := Lib.hid (pl.shortB_no he.out)
          go_enter Try.func20, Try.ntmps20
          go_wp2_with fail
          refine (iValidText_any _ _ hs).mono ?_
          rintro e w1 ⟨rfl, hb1⟩
          rw [hv]
          go_wp2_with fail
          refine (iValidText_any _ _ hsg).mono ?_
          rintro e w2 ⟨rfl, hb2⟩
          rw [hv2]
          have HB := Lib.hid (hb1.trans (hb2.mono hb1.size))
          clear hb1 hb2
          go_wp2_with fail
          go_ret2
          exact ⟨by rw [he.out, hb.out]; rfl, HB.out⟩
        · have hin := Lib.hid (pl.inR_true (n := wd) (lo := 0) (hi := 120) (by omega) (by omega))
          have HV := Lib.hid hv
          have HV2 := Lib.hid hv2
          have hsgz := pl.validT_size hv2
          have hf120 := pl.foldB_size120 s
          obtain ⟨F, HF⟩ : ∃ F, Hid (pl.foldB s = F) := ⟨_, Lib.hid rfl⟩
          rw [HF.out] at hf120
          have hw0' : 0 ≤ wd := by omega
          have hw1' : wd ≤ 120 := by omega
          clear hv hv2 hw0 hw1
          go_enter Try.func20, Try.ntmps20
          go_wp2_with fail
          refine (iValidText_any _ _ hs).mono ?_
          rintro e w1 ⟨rfl, hb1⟩
          rw [HV.out]
          go_wp2_with fail
          refine (iValidText_any _ _ hsg).mono ?_
          rintro e w2 ⟨rfl, hb2⟩
          rw [HV2.out]
          have HB2 := Lib.hid (hb1.trans (hb2.mono hb1.size))
          clear hb1 hb2
          go_wp2_with fail
          refine (iFoldText_any s _ hs).mono ?_
          rintro e w3 ⟨rfl, hb3⟩
          rw [HF.out]
          have HB3 := Lib.hid (HB2.out.trans (hb3.mono HB2.out.size))
          clear hb3
          by_cases hfit : (F.size : Int) ≤ wd
          · have he := Lib.hid (pl.shortOK_yes HV.out HV2.out hin.out (.inl (by rw [HF.out]; exact hfit)))
            have hb := Lib.hid ((pl.shortB_fold he.out (by rw [HF.out]; exact hfit)).trans HF.out)
            go_wp2_with fail
            go_ret2
            exact ⟨by rw [he.out, hb.out]; rfl, HB3.out⟩
          · by_cases hsl : wd < (sg.size : Int)
            · have he := Lib.hid (pl.shortOK_no (s := s) (wd := wd) (sg := sg) (.inr (.inr (.inr ⟨by rw [HF.out]; omega, hsl⟩))))
              have hb := Lib.hid (pl.shortB_no he.out)
              go_wp2_with fail
              go_ret2
              exact ⟨by rw [he.out, hb.out]; rfl, HB3.out⟩
            · have he := Lib.hid (pl.shortOK_yes HV.out HV2.out hin.out (.inr (by omega)))
              have hb := Lib.hid (pl.shortB_cut he.out (by rw [HF.out]; omega))
              have hlt := pl.short_lt (s := s) (wd := wd) (sg := sg) (by rw [HF.out]; omega) (by omega)
              obtain ⟨n, HN⟩ : ∃ n, Hid (pl.cfit (wd - sg.size) (pl.wordsOf s) = n) := ⟨_, Lib.hid rfl⟩
              have hJz := pl.szJ_cfit (wd - sg.size) (pl.wordsOf s) (by omega)
              rw [HN.out] at hlt hJz
              have hL120 := pl.wordsOf_len s
              have hLn := Lib.hid (pl.wordsOf_nth s)
              obtain ⟨L, HL⟩ : ∃ L, Hid ((pl.wordsOf s).length = L) := ⟨_, Lib.hid rfl⟩
              rw [HL.out] at hlt hL120
              obtain ⟨J, HJ⟩ : ∃ J, Hid (pl.joinB ((pl.wordsOf s).take n) pl.sp1 = J) := ⟨_, Lib.hid rfl⟩
              have hJb : (J.size : Int) ≤ wd := by
                have : J.size = pl.szJ ((pl.wordsOf s).take n) := by rw [← HJ.out]; rfl
                omega
              go_wp2_with fail
              refine (iWordsOf_any s _ hs).mono ?_
              rintro e w4 ⟨v4, rfl, ho4, hb4⟩
              have HB4 := Lib.hid (HB3.out.trans (hb4.mono HB3.out.size))
              clear hb4
              have HR := Lib.hid ho4.reads
              rcases ho4.2 with ⟨_, hn0⟩ | ⟨g, cap, cur, rfl, hB, hg, hle, hm, hsq, htake⟩
              · rw [HL.out] at hn0; omega
              · clear hg hsq htake ho4
                rw [HL.out] at hle HR ⊢
                go_wp2_with fail
                refine (countFit_any (pl.wordsOf s) (wd - sg.size) _ _ HR.out (by rw [HL.out]; exact hL120) hLn.out).mono ?_
                rintro e w5 ⟨rfl, hb5⟩
                rw [HN.out]
                have HB5 := Lib.hid (HB4.out.trans (hb5.mono HB4.out.size))
                have HR5 := Lib.hid (HR.out.below (Nat.le_refl _) hb5)
                clear hb5
                go_wp2_with fail
                refine (joinPre g 0 cap L n (pl.wordsOf s) pl.sp1 _ HR5.out HL.out.symm hle (by omega) (by rw [HL.out]; omega) (by rw [HJ.out]; omega)).mono ?_
                rintro e w6 ⟨rfl, hb6⟩
                rw [HJ.out]
                have HB6 := Lib.hid (HB5.out.trans (hb6.mono HB5.out.size))
                have hres : Hid (pl.shortC s wd sg = J ++ sg) := Lib.hid (by unfold pl.shortC; rw [HN.out, HJ.out])
                clear hb6
                go_wp2_with fail
                go_ret2
                exact ⟨by rw [he.out, hb.out, hres.out]; rfl, HB6.out⟩
    · have hv2' : pl.validT sg.data.toList = false := by simpa using hv2
      have he := Lib.hid (pl.shortOK_no (s := s) (wd := wd) (sg := sg) (.inr (.inl hv2')))
      have hb := Lib.hid (pl.shortB_no he.out)
      clear hv2
      go_enter Try.func20, Try.ntmps20
      go_wp2_with fail
      refine (iValidText_any _ _ hs).mono ?_
      rintro e w1 ⟨rfl, hb1⟩
      rw [hv]
      go_wp2_with fail
      refine (iValidText_any _ _ hsg).mono ?_
      rintro e w2 ⟨rfl, hb2⟩
      rw [hv2']
      have HB := Lib.hid (hb1.trans (hb2.mono hb1.size))
      clear hb1 hb2
      go_wp2_with fail
      go_ret2
      exact ⟨by rw [he.out, hb.out]; rfl, HB.out⟩
  · have hv' : pl.validT s.data.toList = false := by simpa using hv
    have he := Lib.hid (pl.shortOK_no (s := s) (wd := wd) (sg := sg) (.inl hv'))
    have hb := Lib.hid (pl.shortB_no he.out)
    clear hv
    go_enter Try.func20, Try.ntmps20
    go_wp2_with fail
    refine (iValidText_any _ _ hs).mono ?_
    rintro e w1 ⟨rfl, hb1⟩
    rw [hv']
    go_wp2_with fail
    go_ret2
    exact ⟨by rw [he.out, hb.out]; rfl, hb1⟩
end Go.Proofs.Ytoeejepamlnkkaa
