/- The walk of FnWrapWords. -/
import Derived.Test.YtfajllfedhifkaaDrawW
import Derived.Test.YtfajllfedhifkaaWrapS
import Derived.Test.YtfajllfedhifkaaGap
import Derived.Deep.RegionWith
import Derived.Laws.BitsLemmas
namespace Go.Proofs.Ytfajllfedhifkaa
open Go.RowKit
set_option maxRecDepth 100000

/-- WordsOf of a line of words: the first word can be read -/
theorem words_first (J : ByteArray) (g : List ByteArray) (y : ByteArray) (hw : pl.wordsOf J = g) (hy : nth g 0 = y) (hg : 0 < g.length) (w : World) (hs : J.size ≤ maxLen) :
    Calls Try.prog 20 #[.string J] w fun e w' => ∃ b c, e = .returned (.slice (some ⟨b, 0, none⟩) g.length c) ∧ w'.cell? ⟨b, 0, none⟩ = some (.string y) ∧ Below w.heap.size w w' := by
  refine (iWordsOf_any J w hs).mono ?_
  rintro e w' ⟨v, rfl, ho, hb⟩
  rw [hw] at ho
  have ho3 := ho
  rcases ho3.2 with ⟨_, hz⟩ | ⟨g2, cap2, cur2, rfl, _⟩
  · omega
  · refine ⟨g2, cap2, rfl, ?_, hb⟩
    have h1 : (g.map Value.string)[0]? = some (.string y) := by
      rw [List.getElem?_map, List.getElem?_eq_getElem hg, ← nth_eq hg, hy]; rfl
    have := ostrs_cells ho rfl 0 _ h1
    simpa [Addr.add] using this

set_option maxHeartbeats 4000000 in
theorem fnWrapWords_walk (a : Option Addr) (len cap : Nat) (zs : List Int) (w : World) (hr : IsRow .u8 w a len cap zs) :
    Calls Try.prog 3 #[.slice a len cap] w fun e w' => e = .returned (.bool true) ∧ Below w.heap.size w w' := by
  have hlen := row_len hr
  by_cases hb : 1048576 < len
  · go_enter Try.func3, Try.ntmps3
    go_wp2
    go_ret
    exact ⟨rfl, Below.refl _ _⟩
  · go_enter Try.func3, Try.ntmps3
    go_wp2_with fail
    refine (dWrapWords_any a len cap zs _ hr).mono ?_
    rintro e w1 ⟨v, l, x, rfl, ho, hl, hf, hx0, hx1, hb1⟩
    have HLN : Hid (l.length ≤ maxLen) := Lib.hid (by unfold maxLen; omega)
    have HL10 := Lib.hid hl
    have HSZ : Hid (∀ i, i < l.length → (nth l i).size ≤ maxLen) := Lib.hid (fun i hi => by have := hf i hi; unfold maxLen; omega)
    have HO1 := Lib.hid ho
    have HB1 := Lib.hid hb1
    clear ho hb1 hf hl
    obtain ⟨E, hE⟩ : ∃ E, Hid (pl.wrapR l x = E) := ⟨_, Lib.hid rfl⟩
    have hEl : Hid (E.length ≤ 10) := Lib.hid (by rw [← hE.out]; exact Nat.le_trans (pl.wrapR_len l x) HL10.out)
    go_wp2_with fail
    refine (iWrapWords_any l x _ _ HO1.out.lreads HLN.out HSZ.out).mono ?_
    rintro e w2 ⟨v2, rfl, ho2, hb2⟩
    rw [hE.out] at ho2
    have HO2 := Lib.hid (HO1.out.below (Nat.le_refl _) hb2)
    have HP2 := Lib.hid ho2
    have HB2 := Lib.hid (HB1.out.trans (hb2.mono HB1.out.size))
    clear hb2 ho2
    obtain ⟨ok, hok⟩ : ∃ ok, Hid (pl.fitA l x = ok) := ⟨_, Lib.hid rfl⟩
    rw [hok.out]
    go_wp2_with fail
    refine (sWrapWords_any l x _ _ HO2.out.reads HLN.out HSZ.out).mono ?_
    rintro e w3 ⟨v3, rfl, ho3, hb3⟩
    rw [hE.out] at ho3
    have HO3 := Lib.hid (HO2.out.below (Nat.le_refl _) hb3)
    have HP3 := Lib.hid (HP2.out.below (Nat.le_refl _) hb3)
    have HQ3 := Lib.hid ho3
    have HB3 := Lib.hid (HB2.out.trans (hb3.mono HB2.out.size))
    clear hb3 ho3
    rw [hok.out]
    go_wp2_with fail
    refine (equalTexts_eq E v2 v3 _ HP3.out.reads HQ3.out.reads (by have := hEl.out; omega)).mono ?_
    rintro e w4 ⟨rfl, hb4⟩
    have HO4 := Lib.hid (HO3.out.below (Nat.le_refl _) hb4)
    have HP4 := Lib.hid (HP3.out.below (Nat.le_refl _) hb4)
    have HQ4 := Lib.hid (HQ3.out.below (Nat.le_refl _) hb4)
    have HB4 := Lib.hid (HB3.out.trans (hb4.mono HB3.out.size))
    clear hb4
    cases ok with
    | false =>
      go_wp2_with fail
      refine (equalTexts_eq E v2 v3 _ HP4.out.reads HQ4.out.reads (by have := hEl.out; omega)).mono ?_
      rintro e w5 ⟨rfl, hb5⟩
      have HB5 := Lib.hid (HB4.out.trans (hb5.mono HB4.out.size))
      clear hb5
      go_wp2_with fail
      go_ret
      exact ⟨by first | rfl | simp, HB5.out⟩
    | true =>
      obtain ⟨b, hbest, hEb⟩ := pl.evenR_best hok.out
      have hp := pl.fitA_parts hok.out
      have hgr := Lib.hid (pl.greedy_way (pl.fitA_short hok.out))
      have HV := Lib.hid hp.2.1
      have hxb := hp.2.2
      have h9 : Hid (l.length ≤ 9) := Lib.hid (pl.vWords_parts HV.out).1
      obtain ⟨G, hG⟩ : ∃ G, Hid (pl.greedy x l l.length = G) := ⟨_, Lib.hid rfl⟩
      rw [hG.out] at hgr
      have hEG : Hid (E = G.map pl.jline) := Lib.hid (by rw [← hE.out, pl.wrapR_yes hok.out, ← hG.out]; rfl)
      have hgap : Hid (pl.gapG x G) := Lib.hid (by rw [← hG.out]; exact pl.gap_greedy _ _ _)
      obtain ⟨n, hn⟩ : ∃ n, Hid (n = E.length) := ⟨_, Lib.hid rfl⟩
      have hnG : Hid (n = G.length) := Lib.hid (by rw [hn.out, hEG.out, List.length_map])
      have hn10 : n ≤ 10 := by rw [hn.out]; exact hEl.out
      obtain ⟨m, hm⟩ : ∃ m, Hid (m = (pl.evenR l x).length) := ⟨_, Lib.hid rfl⟩
      have hnm : n ≤ m := by
        rw [hnG.out, hm.out, hEb, List.length_map, ← hG.out]
        exact pl.greedy_min hbest.1
      have hm10 : m ≤ 10 := by rw [hm.out]; exact Nat.le_trans (pl.evenR_len l x) HL10.out
      obtain ⟨a2, c2, rfl⟩ : ∃ a2 c2, v2 = .slice a2 n c2 := by
        obtain ⟨a6, c6, h6⟩ := HP4.out.reads.slice
        rw [← hn.out] at h6; exact ⟨a6, c6, h6⟩
      clear hp hbest hEb
      go_wp2_with fail
      go_loopw [9] (fun iv wr => ∃ k : Nat, (k + 1 ≤ n ∨ k = 0) ∧ iv = .int .i64 k ∧ Below w4.heap.size w4 wr) (fun iv _ => n - (intOf iv).toNat)
      case atStart => exact ⟨0, .inr rfl, rfl, Below.refl _ _⟩
      case round =>
        obtain ⟨k, hk, rfl, hbel⟩ := hrel
        have hrr := Lib.hid HP4.out.reads
        by_cases hlt : k + 1 < n
        · obtain ⟨b1, o1, rfl, hx1⟩ := hrr.out.at hn.out hbel (k := k) (by omega)
          obtain ⟨b2, o2, he2, hx2⟩ := hrr.out.at hn.out hbel (k := k + 1) hlt
          simp only [Option.some.injEq, Addr.mk.injEq, and_true] at he2
          obtain ⟨rfl, rfl⟩ := he2
          obtain ⟨g, hg⟩ : ∃ g, Hid (G[k]? = some g) := ⟨G[k]'(by rw [← hnG.out]; omega), Lib.hid (List.getElem?_eq_getElem _)⟩
          obtain ⟨h, hh⟩ : ∃ h, Hid (G[k + 1]? = some h) := ⟨G[k + 1]'(by rw [← hnG.out]; omega), Lib.hid (List.getElem?_eq_getElem _)⟩
          have hgm : g ∈ G := List.mem_of_getElem? hg.out
          have hhm : h ∈ G := List.mem_of_getElem? hh.out
          obtain ⟨J, hJ⟩ : ∃ J, Hid (pl.jline g = J) := ⟨_, Lib.hid rfl⟩
          obtain ⟨K, hK⟩ : ∃ K, Hid (pl.jline h = K) := ⟨_, Lib.hid rfl⟩
          obtain ⟨y, hy⟩ : ∃ y, Hid (nth h 0 = y) := ⟨_, Lib.hid rfl⟩
          have e1 : nth E k = J := by
            rw [hEG.out]; unfold nth
            rw [List.getD_eq_getElem?_getD, List.getElem?_map, hg.out, ← hJ.out]; rfl
          have e2 : nth E (k + 1) = K := by
            rw [hEG.out]; unfold nth
            rw [List.getD_eq_getElem?_getD, List.getElem?_map, hh.out, ← hK.out]; rfl
          rw [e1] at hx1
          rw [e2] at hx2
          have hJs : J.size ≤ 120 := by rw [← hJ.out, pl.jline_size]; have := pl.way_sz hgr.out g hgm; omega
          have hKs : K.size ≤ 120 := by rw [← hK.out, pl.jline_size]; have := pl.way_sz hgr.out h hhm; omega
          have hne : 0 < h.length := List.length_pos_iff.2 (hgr.out.2.1 h hhm)
          have hwo : Hid (pl.wordsOf K = h) := Lib.hid (by
            rw [← hK.out]
            exact pl.words_line (pl.way_words hgr.out HV.out h hhm) (by have := pl.way_sz hgr.out h hhm; omega))
          have hgp : x < (J.size : Int) + 1 + y.size := by
            have := pl.gap_at G k g h hgap.out hg.out hh.out
            rw [hy.out, ← pl.jline_size, hJ.out] at this
            exact this
          have hys : y.size ≤ 12 := by
            have h12 := pl.words_12 HV.out
            rw [← hy.out, nth_eq hne]
            exact h12 _ (by rw [← hgr.out.1]; exact List.mem_flatten.2 ⟨h, hhm, List.getElem_mem _⟩)
          have hKm : K.size ≤ maxLen := by unfold maxLen; omega
          obtain ⟨q, hq⟩ : ∃ q, Hid (h.length = q) := ⟨_, Lib.hid rfl⟩
          have hq0 : 0 < q := by rw [← hq.out]; exact hne
          have hq0i : (0 : Int) < (q : Int) := by omega
          have HNE := Lib.hid hne
          have hkI : (k : Int) < (n : Int) := by omega
          have hkI1 : (k : Int) + 1 < (n : Int) := by omega
          have hb1w : b1 < wr.heap.size := World.block_lt_of_cell? wr _ hx1
          have hw1 : IntKind.i64.wrap ((k : Int) + 1) = (k : Int) + 1 := by rw [IntKind.wrap_i64]; omega
          have hw2 : IntKind.i64.wrap ((J.size : Int) + 1) = (J.size : Int) + 1 := by rw [IntKind.wrap_i64]; omega
          have hw3 : IntKind.i64.wrap ((J.size : Int) + 1 + (y.size : Int)) = (J.size : Int) + 1 + (y.size : Int) := by rw [IntKind.wrap_i64]; omega
          have hk0 : (0 : Int) ≤ (k : Int) + 1 := by omega
          clear e1 e2 hgm hhm hne
          go_wp2_with fail
          go_region_with (go_at_call 20; refine (words_first K h y hwo.out hy.out HNE.out _ hKm).mono ?_; rintro e w2 ⟨bq, cq, rfl, hcq, hb2⟩; rw [hq.out]; have hx1' := (hb2.cell (p := ⟨b1, o1 + k, none⟩) hb1w).trans (by simpa using hx1); have hbel2 := hbel.trans (((Below.refl _ _).drew.trans hb2).mono hbel.size))
          all_goals (go_wp2_with fail; exact ⟨⟨k + 1, .inl (by omega), by go_num, by first | exact hbel2 | exact hbel2.drew | exact hbel2.trans below_drewN⟩, by first | (simp [intOf]; done) | (simp [intOf]; omega)⟩)
        · have hkI : ¬ (k : Int) + 1 < (n : Int) := by omega
          have HO5 := Lib.hid (HO4.out.below (Nat.le_refl _) hbel)
          have HP5 := Lib.hid (HP4.out.below (Nat.le_refl _) hbel)
          have HB5 := Lib.hid (HB4.out.trans (hbel.mono HB4.out.size))
          have hkb : k ≤ 10 := by omega
          clear hbel
          go_wp2_with fail
          refine (iEvenWrap_any l x v _ HO5.out.lreads HLN.out HSZ.out).mono ?_
          rintro e w6 ⟨v6, rfl, ho6, hb6⟩
          rw [hok.out]
          obtain ⟨a6, c6, rfl⟩ : ∃ a6 c6, v6 = .slice a6 m c6 := by
            obtain ⟨a7, c7, h7⟩ := ho6.reads.slice
            rw [← hm.out] at h7; exact ⟨a7, c7, h7⟩
          have HO6 := Lib.hid (HO5.out.below (Nat.le_refl _) hb6)
          have HP6 := Lib.hid (HP5.out.below (Nat.le_refl _) hb6)
          have HB6 := Lib.hid (HB5.out.trans (hb6.mono HB5.out.size))
          clear hb6 ho6
          go_wp2_with fail
          refine (allWords_any G _ _ (by rw [← hEG.out]; exact HP6.out.reads) hgr.out.2.1 (by rw [hgr.out.1]; exact pl.vWords_mem HV.out) (by rw [hgr.out.1]; exact h9.out) (fun g hg => by have := pl.way_sz hgr.out g hg; omega)).mono ?_
          rintro e w7 ⟨v7, rfl, ho7, hb7⟩
          rw [hgr.out.1] at ho7
          have HA7 := Lib.hid ho7
          have HO7 := Lib.hid (HO6.out.below (Nat.le_refl _) hb7)
          have HP7 := Lib.hid (HP6.out.below (Nat.le_refl _) hb7)
          have HB7 := Lib.hid (HB6.out.trans (hb7.mono HB6.out.size))
          clear hb7 ho7
          go_wp2_with fail
          refine (equalTexts_eq l v7 v _ HA7.out.reads HO7.out.reads (by have := h9.out; omega)).mono ?_
          rintro e w8 ⟨rfl, hb8⟩
          have HP8 := Lib.hid (HP7.out.below (Nat.le_refl _) hb8)
          have HB8 := Lib.hid (HB7.out.trans (hb8.mono HB7.out.size))
          clear hb8
          go_wp2_with fail
          refine (longest_any E x _ _ HP8.out.reads (by have := hEl.out; omega) hx0 (by rw [hEG.out]; exact pl.way_lines_le hgr.out)).mono ?_
          rintro e w' ⟨⟨mm, rfl, hmm⟩, rfl⟩
          go_wp2_with fail
          go_ret
          exact ⟨by first | rfl | simp, HB8.out⟩
end Go.Proofs.Ytfajllfedhifkaa
