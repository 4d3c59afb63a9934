/- DrawFillWords, and the walk of FnFillWords. -/
import Derived.Test.YtoeejepamlnkkaaFillS
import Derived.Test.YtoeejepamlnkkaaAllG
import Derived.Test.YtoeejepamlnkkaaDrawS
import Derived.Test.YtoeejepamlnkkaaBytes
import Derived.Test.YtoeejepamlnkkaaPlainZ
import Derived.Test.YtoeejepamlnkkaaLawV
namespace Go.Proofs.Ytoeejepamlnkkaa
open Go.RowKit
set_option maxRecDepth 100000

namespace pl
theorem szJ_mem {g : List ByteArray} {x : ByteArray} (h : x ∈ g) : x.size ≤ szJ g := by
  obtain ⟨s, t, rfl⟩ := List.append_of_mem h
  have h1 : szJ (s ++ [x]) ≤ szJ (s ++ x :: t) := by
    have := szJ_grow t (s ++ [x])
    rwa [List.append_assoc] at this
  have h2 : x.size ≤ szJ (s ++ [x]) := by
    by_cases hs : s = []
    · subst hs; rw [List.nil_append, szJ_one]; exact Nat.le_refl _
    · rw [szJ_snoc hs]; omega
  omega
theorem jline_good {g : List ByteArray} (h : ∀ x ∈ g, wordOK x = true) : ∀ y ∈ toL g, good y := by
  intro y hy
  obtain ⟨x, hx, rfl⟩ := List.mem_map.1 hy
  exact word_good (h x hx)
theorem jline_plain {g : List ByteArray} (h : ∀ x ∈ g, wordOK x = true) : (jline g).data.toList.all plainB = true := by
  have hd : (jline g).data.toList = Lib.join (toL g) [32] := rfl
  rw [hd]
  refine join_all plainB (by decide) _ (fun y hy => ?_)
  obtain ⟨x, hx, rfl⟩ := List.mem_map.1 hy
  rw [List.all_eq_true]
  intro c hc
  exact (wb_plain ((List.all_eq_true.1 (wordOK_parts (h x hx)).2.2) c hc)).1
theorem jline_valid {g : List ByteArray} (h : ∀ x ∈ g, wordOK x = true) (hs : szJ g ≤ 120) : validT (jline g).data.toList = true := by
  unfold validT
  rw [jline_plain h, decide_eq_true (by rw [len_eq, jline_size]; exact hs)]; rfl
theorem jline_words {g : List ByteArray} (h : ∀ x ∈ g, wordOK x = true) (hs : szJ g ≤ 120) : wordsOf (jline g) = g := by
  have hd : (jline g).data.toList = Lib.join (toL g) [32] := rfl
  rw [wordsOf_ok (jline_valid h hs)]
  unfold wordsB
  rw [hd, wordsL_join (jline_good h)]
  unfold toL
  rw [List.map_map]
  have : (bs ∘ fun x : ByteArray => x.data.toList) = id := by funext x; exact bs_self x
  rw [this, List.map_id]
theorem jline_head {g : List ByteArray} (h : ∀ x ∈ g, wordOK x = true) (h1 : 0 < (jline g).size) : ¬ (jline g)[0] = 32 := by
  have hd : (jline g).data.toList = Lib.join (toL g) [32] := rfl
  have h2 := get_some h1
  rw [hd] at h2
  cases e : Lib.join (toL g) [32] with
  | nil => rw [e] at h2; simp at h2
  | cons c r =>
    rw [e] at h2
    simp only [List.getElem?_cons_zero, Option.some.injEq] at h2
    rw [← h2]
    exact join_head (jline_good h) e
/-- a filled line -/
structure LineOk (x : ByteArray) (m : Nat) : Prop where
  lt : m < x.size
  few : x.size ≤ 120
  sp : bs (without (x.extract 0 m).data.toList 32) = ⟨#[]⟩
  no : ¬ x[m] = 32
theorem line_ok {J : ByteArray} {m : Nat} (h1 : 0 < J.size) (h2 : ¬ J[0] = 32) (h3 : m + J.size ≤ 120) : LineOk (spB m ++ J) m := by
  have hs : (spB m ++ J).size = m + J.size := by rw [ByteArray.size_append, spB_size]
  have hd : (spB m ++ J).data.toList = spL m ++ J.data.toList := by rw [ByteArray.data_append, Array.toList_append]; rfl
  refine ⟨by omega, by omega, ?_, ?_⟩
  · have e : ((spB m ++ J).extract 0 m).data.toList = spL m := by
      rw [Lib.extract_data, hd, List.drop_zero, Nat.sub_zero]
      rw [List.take_append_of_le_length (by rw [spL_len]; exact Nat.le_refl _), List.take_of_length_le (by rw [spL_len]; exact Nat.le_refl _)]
    rw [e]
    have h4 : without (spL m) 32 = [] := by
      unfold without
      rw [List.filter_eq_nil_iff]
      intro c hc
      rw [(List.mem_replicate.1 hc).2]; simp
    rw [h4]; rfl
  · have hk : m < (spB m ++ J).size := by omega
    have h5 := get_some hk
    rw [hd, List.getElem?_append_right (by rw [spL_len]; exact Nat.le_refl _), spL_len, Nat.sub_self, get_some h1] at h5
    rw [← Option.some.inj h5]; exact h2
theorem spad_words {m : Nat} {s : ByteArray} (h : validT s.data.toList = true) (hl : m + s.size ≤ 120) : wordsOf (spB m ++ s) = wordsOf s := by
  have := padded_words (i := m) (j := 0) h (by omega)
  unfold padded at this
  rwa [app_sp0] at this
/-- all that the law says of filled lines -/
structure FillOk (l : List ByteArray) (wd : Int) (a b : Nat) (o : List ByteArray) : Prop where
  line : ∀ i, i < o.length → LineOk (nth o i) (if i = 0 then a else b)
  short : ∀ i, i < o.length → ((nth o i).size : Int) ≤ wd
  words : wTo o o.length = l
  fit : fitA l wd = true
  bare : a = 0 → b = 0 → o = wrapR l wd
theorem fill_ok {l : List ByteArray} {wd : Int} {a b : Nat} (h : fillOK l wd a b = true) : FillOk l wd a b (fillR l wd a b) := by
  have hp := h
  unfold fillOK at hp
  simp only [Bool.and_eq_true] at hp
  obtain ⟨⟨⟨⟨hv, hin⟩, ha⟩, hb⟩, hsome⟩ := hp
  obtain ⟨o, ho⟩ := Option.isSome_iff_exists.1 hsome
  have hR : fillR l wd a b = o := by unfold fillR; rw [if_pos h, ho]; rfl
  rw [hR]
  simp only [Int.toNat_natCast] at ho
  have hw := inR_parts hin
  have hok : ∀ x ∈ l, wordOK x = true := by
    intro x hx
    obtain ⟨i, hi, rfl⟩ := List.getElem_of_mem hx
    rw [← nth_eq hi]; exact (vWords_parts hv).2 i hi
  obtain ⟨gs, h1, h2, h3, h4⟩ := fillS_shape _ _ _ _ ho
  have hgw : ∀ g ∈ gs, ∀ x ∈ g, wordOK x = true := fun g hg x hx => hok x (by rw [← h2]; exact List.mem_flatten.2 ⟨g, hg, hx⟩)
  have hgp : ∀ g ∈ gs, 1 ≤ szJ g := fun g hg => szJ_pos (h3 g hg) (fun x hx => (wordOK_parts (hgw g hg x hx)).1)
  have each : ∀ i (hi : i < gs.length), LineOk (nth o i) (if i = 0 then a else b) ∧ ((nth o i).size : Int) ≤ wd ∧ wordsOf (nth o i) = gs[i] := by
    intro i hi
    obtain ⟨e1, e2⟩ := h4 i gs[i] (List.getElem?_eq_getElem hi)
    have hm := List.getElem_mem hi
    have hpos := hgp _ hm
    generalize (if i = 0 then a else b) = m at e1 e2 ⊢
    rw [e1]
    refine ⟨line_ok (by rw [jline_size]; exact hpos) (jline_head (hgw _ hm) (by rw [jline_size]; exact hpos)) (by rw [jline_size]; omega), ?_, ?_⟩
    · rw [ByteArray.size_append, spB_size, jline_size]; omega
    · rw [spad_words (jline_valid (hgw _ hm) (by omega)) (by rw [jline_size]; omega), jline_words (hgw _ hm) (by omega)]
  have hwords : wTo o o.length = l := by
    rw [← h2]
    unfold wTo
    rw [List.take_length]
    congr 1
    apply List.ext_getElem (by rw [List.length_map, h1])
    intro i hi1 hi2
    rw [List.getElem_map, ← nth_eq (by rw [h1]; exact hi2)]
    exact (each i hi2).2.2
  have hshort : shortAll l wd = true := by
    apply shortAll_yes
    intro i hi
    have hx : nth l i ∈ l := by rw [nth_eq hi]; exact List.getElem_mem hi
    have hx2 : nth l i ∈ gs.flatten := by rw [h2]; exact hx
    obtain ⟨g, hg, hxg⟩ := List.mem_flatten.1 hx2
    obtain ⟨k, hk, rfl⟩ := List.getElem_of_mem hg
    have := (h4 k gs[k] (List.getElem?_eq_getElem hk)).2
    have := szJ_mem hxg
    omega
  have hfit := fitA_yes hv hin hshort
  refine ⟨fun i hi => (each i (by omega)).1, fun i hi => (each i (by omega)).2.1, hwords, hfit, fun e1 e2 => ?_⟩
  subst e1 e2
  rw [fillS_wrap _ _ (by omega)] at ho
  split at ho
  · have := Option.some.inj ho
    rw [← this, wrapR_yes hfit]
    have e : (fun x => spB 0 ++ x) = (id : ByteArray → ByteArray) := by funext x; exact sp0_app x
    rw [e, List.map_id]
    simp
  · cases ho
end pl

set_option maxHeartbeats 2000000 in
theorem dFillWords_any (a : Option Addr) (len cap : Nat) (zs : List Int) (w : World) (hr : IsRow .u8 w a len cap zs) :
    Calls Try.prog 11 #[.slice a len cap] w fun e w' => ∃ (v : Value) (l : List ByteArray) (x y z : Int), e = .returned (.tuple #[v, .int .i64 x, .int .i64 y, .int .i64 z]) ∧ OStrs w.heap.size w' v l ∧ l.length ≤ 10 ∧ few 20 l ∧ (0 ≤ x ∧ x ≤ 121) ∧ (0 ≤ y ∧ y ≤ 11) ∧ (-1 ≤ z ∧ z ≤ 10) ∧ Below w.heap.size w w' := by
  go_enter Try.func11, Try.ntmps11
  go_wp2_with fail
  refine (newReader_any a len cap zs _ hr).mono ?_
  rintro e w1 ⟨n, c, rfl, hR, hb1⟩
  go_wp2_with fail
  refine (someWords_any _ _ n c 0 a _ hR (by omega)).mono ?_
  rintro e w2 ⟨v, l, rfl, ho, hl, hf, p2, hp2, hR2, hg2⟩
  have b2 := Lib.hid (hb1.grown hg2 hb1.size (fun k hk => by cases hk; exact Nat.le_refl _))
  have HO := Lib.hid ho
  have S1 := Lib.hid hb1.size
  have hlt := Lib.hid hR.lt
  clear ho
  go_wp2_with fail
  refine (one_lit 0 121 8 _ rfl (by omega) (by omega) ?_ _ _ n c p2 a _ hR2 (by omega)).mono ?_
  · simp [okInts]
  rintro e w3 ⟨x, rfl, hx0, hx1, p3, hp3, hR3, hg3⟩
  have b3 := Lib.hid (b2.out.grown hg3 b2.out.size (fun k hk => by cases hk; exact Nat.le_refl _))
  have HO3 := Lib.hid (HO.out.read hg3 hlt.out)
  go_wp2_with fail
  refine (one_lit 0 11 6 _ rfl (by omega) (by omega) ?_ _ _ n c p3 a _ hR3 (by omega)).mono ?_
  · simp [okInts]
  rintro e w4 ⟨y, rfl, hy0, hy1, p4, hp4, hR4, hg4⟩
  have b4 := Lib.hid (b3.out.grown hg4 b3.out.size (fun k hk => by cases hk; exact Nat.le_refl _))
  have HO4 := Lib.hid (HO3.out.read hg4 hlt.out)
  go_wp2_with fail
  refine (one_lit (-1) 10 6 _ rfl (by omega) (by omega) ?_ _ _ n c p4 a _ hR4 (by omega)).mono ?_
  · simp [okInts]
  rintro e w5 ⟨z, rfl, hz0, hz1, p5, hp5, hR5, hg5⟩
  have b5 := Lib.hid (b4.out.grown hg5 b4.out.size (fun k hk => by cases hk; exact Nat.le_refl _))
  have HO5 := Lib.hid (HO4.out.read hg5 hlt.out)
  go_wp2_with fail
  refine bodyPost_ret (v := .tuple #[v, .int .i64 x, .int .i64 y, .int .i64 z]) (by simp [results, Try.results11, go_sem]) rfl ?_
  exact ⟨v, l, x, y, z, rfl, HO5.out.mono S1.out, hl, hf, ⟨hx0, hx1⟩, ⟨hy0, hy1⟩, ⟨hz0, hz1⟩, b5.out⟩

set_option maxHeartbeats 8000000 in
theorem fnFillWords_walk (a : Option Addr) (len cap : Nat) (zs : List Int) (w : World) (hr : IsRow .u8 w a len cap zs) :
    Calls Try.prog 3 #[.slice a len cap] w fun e w' => e = .returned (.bool true) ∧ Below w.heap.size w w' := by
  have hlen := row_len hr
  by_cases hb : 1048576 < len
  · go_enter Try.func3, Try.ntmps3
    go_wp2
    go_ret
    exact ⟨rfl, Below.refl _ _⟩
  · go_enter Try.func3, Try.ntmps3
    go_wp2_with fail
    refine (dFillWords_any a len cap zs _ hr).mono ?_
    rintro e w1 ⟨v, l, x, y, z, rfl, ho, hl, hf, ⟨hx0, hx1⟩, ⟨hy0, hy1⟩, ⟨hz0, hz1⟩, hb1⟩
    have HLN : Hid (l.length ≤ maxLen) := Lib.hid (by unfold maxLen; omega)
    have HL10 := Lib.hid hl
    have HSZ : Hid (∀ i, i < l.length → (nth l i).size ≤ maxLen) := Lib.hid (fun i hi => by have := hf i hi; unfold maxLen; omega)
    have HO1 := Lib.hid ho
    have HB1 := Lib.hid hb1
    clear ho hb1 hf hl
    obtain ⟨O, HO⟩ : ∃ O, Hid (pl.fillR l x y z = O) := ⟨_, Lib.hid rfl⟩
    obtain ⟨K, HK⟩ : ∃ K, Hid (pl.fillOK l x y z = K) := ⟨_, Lib.hid rfl⟩
    have hOl : Hid (O.length ≤ 10) := Lib.hid (by rw [← HO.out]; exact Nat.le_trans (pl.fillR_len l x y z) HL10.out)
    go_wp2_with fail
    refine (iFill_any l x y z _ _ HO1.out.lreads HLN.out HSZ.out).mono ?_
    rintro e w2 ⟨v2, rfl, ho2, hb2⟩
    rw [HO.out] at ho2
    rw [HK.out]
    have HP2 := Lib.hid ho2
    have HO2 := Lib.hid (HO1.out.below (Nat.le_refl _) hb2)
    have HB2 := Lib.hid (HB1.out.trans (hb2.mono HB1.out.size))
    clear ho2 hb2
    go_wp2_with fail
    refine (sFill_any l x y z _ _ HO2.out.reads HLN.out HSZ.out).mono ?_
    rintro e w3 ⟨v3, rfl, ho3, hb3⟩
    rw [HO.out] at ho3
    rw [HK.out]
    have HQ3 := Lib.hid ho3
    have HP3 := Lib.hid (HP2.out.below (Nat.le_refl _) hb3)
    have HO3 := Lib.hid (HO2.out.below (Nat.le_refl _) hb3)
    have HB3 := Lib.hid (HB2.out.trans (hb3.mono HB2.out.size))
    clear ho3 hb3
    go_wp2_with fail
    refine (equalTexts_self O v2 v3 _ HP3.out.reads HQ3.out.reads (by have := hOl.out; omega)).mono ?_
    rintro e w4 ⟨rfl, hb4⟩
    have HQ4 := Lib.hid (HQ3.out.below (Nat.le_refl _) hb4)
    have HP4 := Lib.hid (HP3.out.below (Nat.le_refl _) hb4)
    have HO4 := Lib.hid (HO3.out.below (Nat.le_refl _) hb4)
    have HB4 := Lib.hid (HB3.out.trans (hb4.mono HB3.out.size))
    clear hb4
    cases K with
    | false =>
      go_wp2_with fail
      refine (equalTexts_self O v2 v3 _ HP4.out.reads HQ4.out.reads (by have := hOl.out; omega)).mono ?_
      rintro e w5 ⟨rfl, hb5⟩
      have HB5 := Lib.hid (HB4.out.trans (hb5.mono HB4.out.size))
      clear hb5
      go_wp2_with fail
      go_ret
      exact ⟨rfl, HB5.out⟩
    | true =>
      obtain ⟨y, rfl⟩ := Int.eq_ofNat_of_zero_le hy0
      have hz00 : 0 ≤ z := by
        have h := HK.out
        unfold pl.fillOK at h
        simp only [Bool.and_eq_true] at h
        exact (pl.inR_parts h.1.2).1
      obtain ⟨z, rfl⟩ := Int.eq_ofNat_of_zero_le hz00
      have hfo := pl.fill_ok HK.out
      rw [HO.out] at hfo
      have HF := Lib.hid hfo
      clear hfo hz00 hy0
      obtain ⟨n, hn⟩ : ∃ n, Hid (O.length = n) := ⟨_, Lib.hid rfl⟩
      have hn10 : n ≤ 10 := by rw [← hn.out]; exact hOl.out
      have HR4 := Lib.hid HP4.out.reads
      obtain ⟨av, cv, rfl⟩ := HR4.out.slice
      rw [hn.out] at HR4 HP4 HP2 HP3 ⊢
      go_wp2_with fail
      go_loopw [11] (fun iv wr => ∃ k : Nat, k ≤ n ∧ iv = .int .i64 k ∧ Below w4.heap.size w4 wr) (fun iv _ => n - (intOf iv).toNat)
      case atStart => exact ⟨0, Nat.zero_le _, rfl, Below.refl _ _⟩
      case round =>
        obtain ⟨k, hk, rfl, hbel⟩ := hrel
        by_cases hlt : k < n
        · obtain ⟨b1, o1, rfl, hx⟩ := HR4.out.at hn.out.symm hbel hlt
          have hli := HF.out.line k (by rw [hn.out]; exact hlt)
          obtain ⟨X, HX⟩ : ∃ X, Hid (nth O k = X) := ⟨_, Lib.hid rfl⟩
          rw [HX.out] at hx hli
          have HB := Lib.hid hbel
          clear hbel
          by_cases hk0 : k = 0
          · subst hk0
            rw [if_pos rfl] at hli
            have hl1 := hli.lt
            have hl2 := hli.few
            have hwo := Lib.hid hli.sp
            have h32 : ((X[y].toNat : Int) == 32) = false := beq_eq_false_iff_ne.2 (pl.byte_ne hli.no)
            have hxl : ¬ (X.size : Int) ≤ (y : Int) := by omega
            have hex : (X.extract 0 y).size ≤ 1000000 := by rw [pl.ex_bs, pl.bs_size, pl.seg_len (by omega)]; omega
            rw [Nat.add_zero] at hx
            clear hli
            go_wp2_with fail
            refine (without_at _ 32 32 rfl _ hex).mono ?_
            rintro e w' ⟨rfl, rfl⟩
            rw [hwo.out]
            go_wp2_with fail
            go_roundw
            case rel => exact ⟨1, by omega, by go_num, HB.out⟩
            case measure => simp [intOf]; omega
          · rw [if_neg hk0] at hli
            have hk0i : ((k : Int) == 0) = false := beq_eq_false_iff_ne.2 (by omega)
            have hl1 := hli.lt
            have hl2 := hli.few
            have hwo := Lib.hid hli.sp
            have h32 : ((X[z].toNat : Int) == 32) = false := beq_eq_false_iff_ne.2 (pl.byte_ne hli.no)
            have hxl : ¬ (X.size : Int) ≤ (z : Int) := by omega
            have hex : (X.extract 0 z).size ≤ 1000000 := by rw [pl.ex_bs, pl.bs_size, pl.seg_len (by omega)]; omega
            clear hli
            go_wp2_with fail
            refine (without_at _ 32 32 rfl _ hex).mono ?_
            rintro e w' ⟨rfl, rfl⟩
            rw [hwo.out]
            go_wp2_with fail
            go_roundw
            case rel => exact ⟨k + 1, by omega, by go_num, HB.out⟩
            case measure => simp [intOf]; omega
        · obtain rfl : k = n := by omega
          have HP5 := Lib.hid (HP4.out.below (Nat.le_refl _) hbel)
          have HO5 := Lib.hid (HO4.out.below (Nat.le_refl _) hbel)
          have HB5 := Lib.hid (HB4.out.trans (hbel.mono HB4.out.size))
          clear hbel
          have hf2 := Lib.hid HF.out.fit
          obtain ⟨P, HPl⟩ : ∃ P, Hid (pl.wrapR l x = P) := ⟨_, Lib.hid rfl⟩
          have hPlen : Hid (P.length ≤ 10) := Lib.hid (by rw [← HPl.out]; exact Nat.le_trans (pl.wrapR_len l x) HL10.out)
          go_wp2_with fail
          refine (iWrapWords_any l x _ _ HO5.out.lreads HLN.out HSZ.out).mono ?_
          rintro e w6 ⟨v6, rfl, ho6, hb6⟩
          rw [HPl.out] at ho6
          rw [hf2.out]
          have HS6 := Lib.hid ho6
          have HP6 := Lib.hid (HP5.out.below (Nat.le_refl _) hb6)
          have HO6 := Lib.hid (HO5.out.below (Nat.le_refl _) hb6)
          have HB6 := Lib.hid (HB5.out.trans (hb6.mono HB5.out.size))
          clear ho6 hb6
          go_wp2_with fail
          refine (allWordsG_any O _ _ HP6.out.reads (by have := hOl.out; omega) (fun i hi => Nat.le_trans (HF.out.line i hi).few (by omega))).mono ?_
          rintro e w7 ⟨v7, rfl, ho7, hb7⟩
          rw [HF.out.words] at ho7
          have HT7 := Lib.hid ho7
          have HS7 := Lib.hid (HS6.out.below (Nat.le_refl _) hb7)
          have HP7 := Lib.hid (HP6.out.below (Nat.le_refl _) hb7)
          have HO7 := Lib.hid (HO6.out.below (Nat.le_refl _) hb7)
          have HB7 := Lib.hid (HB6.out.trans (hb7.mono HB6.out.size))
          clear ho7 hb7
          go_wp2_with fail
          refine (equalTexts_self l _ _ _ HT7.out.reads HO7.out.reads (by have := HL10.out; omega)).mono ?_
          rintro e w8 ⟨rfl, hb8⟩
          have HS8 := Lib.hid (HS7.out.below (Nat.le_refl _) hb8)
          have HP8 := Lib.hid (HP7.out.below (Nat.le_refl _) hb8)
          have HB8 := Lib.hid (HB7.out.trans (hb8.mono HB7.out.size))
          clear hb8
          go_wp2_with fail
          refine (longestG_any O x _ _ HP8.out.reads (by have := hOl.out; omega) hx0 HF.out.short).mono ?_
          rintro e w' ⟨⟨mx, rfl, hmx⟩, rfl⟩
          by_cases hab : (0 : Int) < (y : Int) + (z : Int)
          · go_wp2_with fail
            go_ret
            exact ⟨rfl, HB8.out⟩
          · have hPO : Hid (O = P) := Lib.hid (by rw [← HPl.out]; exact HF.out.bare (by omega) (by omega))
            go_wp2_with fail
            refine (equalTexts_self O _ _ _ (by rw [hPO.out]; exact HS8.out.reads) HP8.out.reads (by have := hOl.out; omega)).mono ?_
            rintro e w9 ⟨rfl, hb9⟩
            have HB9 := Lib.hid (HB8.out.trans (hb9.mono HB8.out.size))
            clear hb9
            go_wp2_with fail
            go_ret
            exact ⟨rfl, HB9.out⟩
end Go.Proofs.Ytoeejepamlnkkaa
