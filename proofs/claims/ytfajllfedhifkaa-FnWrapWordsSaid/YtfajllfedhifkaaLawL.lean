/- DrawLeastWidth, and the walk of FnLeastWidth. -/
import Derived.Test.YtfajllfedhifkaaDrawS
import Derived.Test.YtfajllfedhifkaaLeast
import Derived.Test.YtfajllfedhifkaaJoin
namespace Go.Proofs.Ytfajllfedhifkaa
open Go.RowKit
set_option maxRecDepth 100000

set_option maxHeartbeats 1000000 in
theorem dLeast_any (a : Option Addr) (len cap : Nat) (zs : List Int) (w : World) (hr : IsRow .u8 w a len cap zs) :
    Calls Try.prog 30 #[.slice a len cap] w fun e w' => ∃ (v : Value) (l : List ByteArray) (x : Int), e = .returned (.tuple #[v, .int .i64 x]) ∧ OStrs w.heap.size w' v l ∧ l.length ≤ 10 ∧ few 20 l ∧ 0 ≤ x ∧ x ≤ 10 ∧ Below w.heap.size w w' := by
  go_enter Try.func30, Try.ntmps30
  go_wp2_with fail
  refine (newReader_any a len cap zs _ hr).mono ?_
  rintro e w1 ⟨n, c, rfl, hR, hb1⟩
  go_wp2_with fail
  refine (someWords_any _ _ n c 0 a _ hR (by omega)).mono ?_
  rintro e w2 ⟨v, l, rfl, ho, hl, hf, p2, hp2, hR2, hg2⟩
  have b2 := Lib.hid (hb1.grown hg2 hb1.size (fun k hk => by cases hk; exact Nat.le_refl _))
  have HO := Lib.hid ho
  have S1 := Lib.hid hb1.size
  clear ho
  go_wp2_with fail
  refine (one_lit 0 10 8 _ rfl (by omega) (by omega) ?_ _ _ n c p2 a _ hR2 (by omega)).mono ?_
  · simp [okInts]
  rintro e w3 ⟨x, rfl, hx0, hx6, p3, hp3, hR3, hg3⟩
  have b3 := Lib.hid (b2.out.grown hg3 b2.out.size (fun k hk => by cases hk; exact Nat.le_refl _))
  have HO3 := Lib.hid (HO.out.read hg3 hR.lt)
  go_wp2_with fail
  go_ret2
  exact ⟨v, l, x, rfl, HO3.out.mono S1.out, hl, hf, hx0, hx6, b3.out⟩

namespace pl
theorem szJ_mono : ∀ (t g : List ByteArray), szJ g ≤ szJ (g ++ t)
  | [], g => by simp
  | x :: t, g => by
    have h1 := szJ_le_snoc g x
    have h2 := szJ_mono t (g ++ [x])
    rw [List.append_assoc] at h2
    exact Nat.le_trans h1 h2
theorem szJ_take (l : List ByteArray) (k : Nat) : szJ (l.take k) ≤ szJ l := by
  have := szJ_mono (l.drop k) (l.take k)
  rwa [List.take_append_drop] at this
theorem size_szJ {l : List ByteArray} {i : Nat} (h : i < l.length) : (nth l i).size ≤ szJ l := by
  have h1 := szJ_take l (i + 1)
  rw [List.take_succ_eq_append_getElem h, ← nth_eq h] at h1
  by_cases e : l.take i = []
  · rw [e, List.nil_append, szJ_one] at h1; exact h1
  · rw [szJ_snoc e] at h1; omega
/-- all in one line, if it is wide enough -/
theorem greedy_one {l : List ByteArray} {wd : Int} (h : (szJ l : Int) ≤ wd) : ∀ k, k + 1 ≤ l.length → greedy wd l (k + 1) = [l.take (k + 1)]
  | 0, hk => by
    rw [greedy_first, List.take_succ_eq_append_getElem (by omega), ← nth_eq (by omega)]; rfl
  | k + 1, hk => by
    have ih := greedy_one h k (by omega)
    have hs := szJ_take l (k + 1 + 1)
    have e : l.take (k + 1 + 1) = l.take (k + 1) ++ [nth l (k + 1)] := by rw [List.take_succ_eq_append_getElem (by omega), ← nth_eq (by omega)]
    have hne : l.take (k + 1) ≠ [] := by
      intro e2
      have := congrArg List.length e2
      rw [List.length_take, List.length_nil] at this; omega
    rw [e, szJ_snoc hne] at hs
    rw [greedy_more (k := k + 1) [] (l.take (k + 1)) ih (by omega), e]
    rfl
theorem lw_one {l : List ByteArray} {k : Nat} (h0 : 0 < l.length) (h : lwP l 1 k = true) : szJ l ≤ k := by
  unfold lwP at h
  rw [Bool.and_eq_true, decide_eq_true_eq] at h
  obtain ⟨h1, h2⟩ := h
  have hp := fitA_parts h1
  unfold wrapB at h2
  rw [List.length_map] at h2
  obtain ⟨d, c, hd, hc⟩ := greedy_snoc (k : Int) l h0
  have hdn : d = [] := by
    rw [hd, List.length_append] at h2
    cases d with
    | nil => rfl
    | cons a b => simp at h2; omega
  subst hdn
  have hfl := grW_flatten (opG (k : Int)) l l.length (Nat.le_refl _)
  have hfl2 : (greedy (k : Int) l l.length).flatten = l := by rw [show greedy (k : Int) l l.length = grW (opG (k : Int)) l l.length from rfl, hfl, List.take_length]
  rw [hd] at hfl2
  have hcl : c = l := by simpa using hfl2
  have := greedy_fits hp.1 l.length (Nat.le_refl _) c (by rw [hd]; simp)
  rw [hcl] at this
  omega
theorem lw_szJ {l : List ByteArray} (hv : vWords l = true) (h0 : 0 < l.length) (h117 : szJ l ≤ 120) : lwP l 1 (szJ l) = true := by
  unfold lwP
  have h1 : 1 ≤ szJ l := by
    have := size_szJ h0
    have h2 := (wordOK_parts ((vWords_parts hv).2 0 h0)).1
    omega
  have hf : fitA l (szJ l) = true := by
    unfold fitA
    rw [shortAll_yes (fun i hi => by have := size_szJ hi; omega), hv, inR_true (by omega) (by omega)]; rfl
  obtain ⟨p, hp⟩ : ∃ p, l.length = p + 1 := ⟨l.length - 1, by omega⟩
  have hg := greedy_one (l := l) (wd := (szJ l : Int)) (Int.le_refl _) p (by omega)
  rw [hf, Bool.true_and]
  apply decide_eq_true
  unfold wrapB
  rw [List.length_map, hp, hg]; simp
/-- what the first one is -/
theorem firstP_true {p : Nat → Bool} : ∀ (f k m : Nat), firstP p f k = (m, true) → p m = true ∧ k ≤ m ∧ m < k + f ∧ ∀ j, k ≤ j → j < m → p j = false
  | 0, k, m, h => by simp [firstP] at h
  | f + 1, k, m, h => by
    by_cases hp : p k = true
    · rw [firstP_yes hp] at h
      simp only [Prod.mk.injEq, and_true] at h
      subst h
      exact ⟨hp, Nat.le_refl _, by omega, fun j h1 h2 => by omega⟩
    · have hp' : p k = false := by simpa using hp
      rw [firstP_no hp'] at h
      obtain ⟨h1, h2, h3, h4⟩ := firstP_true f (k + 1) m h
      refine ⟨h1, by omega, by omega, fun j hj1 hj2 => ?_⟩
      by_cases e : j = k
      · subst e; exact hp'
      · exact h4 j (by omega) hj2
theorem leastR_true {l : List ByteArray} {n : Int} {k : Nat} (h : leastR l n = (k, true)) : vWords l = true ∧ 1 ≤ n ∧ n ≤ 9 ∧ 1 ≤ k ∧ k ≤ 120 ∧ fitA l k = true ∧ ((wrapB k l).length : Int) ≤ n ∧
    (fitA l ((k : Int) - 1) = true → n < ((wrapR l ((k : Int) - 1)).length : Int)) ∧ (n = 1 → 0 < l.length → k = szJ l) := by
  unfold leastR at h
  by_cases hc : (vWords l && inR n 1 9) = true
  · rw [if_pos hc] at h
    rw [Bool.and_eq_true] at hc
    have hn := inR_parts hc.2
    obtain ⟨h1, h2, h3, h4⟩ := firstP_true 120 1 k h
    have h1' := h1
    unfold lwP at h1'
    rw [Bool.and_eq_true, decide_eq_true_eq] at h1'
    refine ⟨hc.1, hn.1, hn.2, h2, by omega, h1'.1, h1'.2, fun hf => ?_, fun hn1 h0 => ?_⟩
    · have hp := fitA_parts hf
      have hk1 : 1 ≤ k - 1 := by omega
      have e : ((k : Int) - 1) = ((k - 1 : Nat) : Int) := by omega
      have h5 := h4 (k - 1) hk1 (by omega)
      unfold lwP at h5
      rw [← e, hf, Bool.true_and, decide_eq_false_iff_not] at h5
      rw [wrapR_yes hf]; omega
    · subst hn1
      have h5 := lw_one h0 h1
      have h6 : szJ l ≤ 120 := by omega
      have h7 := lw_szJ hc.1 h0 h6
      rcases Nat.lt_or_ge (szJ l) k with h8 | h8
      · have h9 : 1 ≤ szJ l := by
          have := size_szJ h0
          have h2 := (wordOK_parts ((vWords_parts hc.1).2 0 h0)).1
          omega
        rw [h4 (szJ l) h9 h8] at h7; cases h7
      · omega
  · rw [if_neg hc] at h; simp at h
end pl

set_option maxHeartbeats 4000000 in
theorem fnLeastWidth_walk (a : Option Addr) (len cap : Nat) (zs : List Int) (w : World) (hr : IsRow .u8 w a len cap zs) :
    Calls Try.prog 6 #[.slice a len cap] w fun e w' => e = .returned (.bool true) ∧ Below w.heap.size w w' := by
  have hlen := row_len hr
  by_cases hb : 1048576 < len
  · go_enter Try.func6, Try.ntmps6
    go_wp2
    go_ret
    exact ⟨rfl, Below.refl _ _⟩
  · go_enter Try.func6, Try.ntmps6
    go_wp2_with fail
    refine (dLeast_any a len cap zs _ hr).mono ?_
    rintro e w1 ⟨v, l, x, rfl, ho, hl, hf, hx0, hx1, hb1⟩
    have HO1 := Lib.hid ho
    have HB1 := Lib.hid hb1
    have HLN : Hid (l.length ≤ maxLen) := Lib.hid (by unfold maxLen; omega)
    have HSZ : Hid (∀ i, i < l.length → (nth l i).size ≤ maxLen) := Lib.hid (fun i hi => by have := hf i hi; unfold maxLen; omega)
    obtain ⟨T, hT⟩ : ∃ T, Hid (pl.leastR l x = T) := ⟨_, Lib.hid rfl⟩
    obtain ⟨k, ok⟩ := T
    have hkb : k ≤ 121 := by
      have h := hT.out
      unfold pl.leastR at h
      by_cases hc : (pl.vWords l && pl.inR x 1 9) = true
      · rw [if_pos hc] at h
        have h2 := pl.firstP_le (p := pl.lwP l x) 120 1
        rw [h] at h2; omega
      · rw [if_neg hc] at h; simp at h; omega
    clear ho hb1 hf
    go_wp2_with fail
    refine (iLeast_any l x v _ HO1.out.lreads HLN.out HSZ.out).mono ?_
    rintro e w2 ⟨rfl, hb2⟩
    rw [hT.out]
    have HO2 := Lib.hid (HO1.out.below (Nat.le_refl _) hb2)
    have HB2 := Lib.hid (HB1.out.trans (hb2.mono HB1.out.size))
    clear hb2
    go_wp2_with fail
    refine (sLeast_any l x v _ HO2.out.reads HLN.out HSZ.out).mono ?_
    rintro e w3 ⟨rfl, hb3⟩
    rw [hT.out]
    have HO3 := Lib.hid (HO2.out.below (Nat.le_refl _) hb3)
    have HB3 := Lib.hid (HB2.out.trans (hb3.mono HB2.out.size))
    clear hb3
    cases ok with
    | false =>
      go_wp2_with fail
      go_ret
      exact ⟨by first | rfl | simp, HB3.out⟩
    | true =>
      obtain ⟨T1, T2, T3, T4, T5, T6, T7, T8, T9⟩ := pl.leastR_true hT.out
      have hkf := Lib.hid T6
      obtain ⟨m4, hm4⟩ : ∃ m, Hid ((pl.wrapR l k).length = m) := ⟨_, Lib.hid rfl⟩
      have hm4x : (m4 : Int) ≤ x := by rw [← hm4.out, pl.wrapR_yes T6]; exact T7
      obtain ⟨m5, hm5⟩ : ∃ m, Hid ((pl.wrapR l ((k : Int) - 1)).length = m) := ⟨_, Lib.hid rfl⟩
      have hm5b : m5 ≤ 10 := by rw [← hm5.out]; exact Nat.le_trans (pl.wrapR_len l _) (by omega)
      clear T1 T6 T7
      by_cases hgd : pl.fitA l ((k : Int) - 1) = true
      · have hm5x : x < (m5 : Int) := by rw [← hm5.out]; exact T8 hgd
        clear T8
        by_cases hn1 : 1 < x
        · have hn1' := hn1
          go_wp2_with fail
          refine (iWrapWords_any l k v _ HO3.out.lreads HLN.out HSZ.out).mono ?_
          rintro e w4 ⟨v4, rfl, ho4, hb4⟩
          rw [hkf.out]
          obtain ⟨a4, c4, rfl⟩ := ho4.reads.slice
          rw [hm4.out]
          have HO4 := Lib.hid (HO3.out.below (Nat.le_refl _) hb4)
          have HB4 := Lib.hid (HB3.out.trans (hb4.mono HB3.out.size))
          clear ho4 hb4
          go_wp2_with fail
          refine (iWrapWords_any l ((k : Int) - 1) v _ HO4.out.lreads HLN.out HSZ.out).mono ?_
          rintro e w5 ⟨v5, rfl, ho5, hb5⟩
          rw [hgd]
          obtain ⟨a5, c5, rfl⟩ := ho5.reads.slice
          rw [hm5.out]
          have HO5 := Lib.hid (HO4.out.below (Nat.le_refl _) hb5)
          have HB5 := Lib.hid (HB4.out.trans (hb5.mono HB4.out.size))
          clear ho5 hb5
          go_wp2_with fail
          go_ret
          exact ⟨by first | rfl | simp, HB5.out⟩
        · obtain rfl : x = 1 := by omega
          by_cases h0 : l.length = 0
          · have HN0 := Lib.hid h0
            go_wp2_with fail
            refine (iWrapWords_any l k v _ HO3.out.lreads HLN.out HSZ.out).mono ?_
            rintro e w4 ⟨v4, rfl, ho4, hb4⟩
            rw [hkf.out]
            obtain ⟨a4, c4, rfl⟩ := ho4.reads.slice
            rw [hm4.out]
            have HO4 := Lib.hid (HO3.out.below (Nat.le_refl _) hb4)
            have HB4 := Lib.hid (HB3.out.trans (hb4.mono HB3.out.size))
            clear ho4 hb4
            go_wp2_with fail
            refine (iWrapWords_any l ((k : Int) - 1) v _ HO4.out.lreads HLN.out HSZ.out).mono ?_
            rintro e w5 ⟨v5, rfl, ho5, hb5⟩
            rw [hgd]
            obtain ⟨a5, c5, rfl⟩ := ho5.reads.slice
            rw [hm5.out]
            have HO5 := Lib.hid (HO4.out.below (Nat.le_refl _) hb5)
            have HB5 := Lib.hid (HB4.out.trans (hb5.mono HB4.out.size))
            clear ho5 hb5
            have hvl : ∃ a6 c6, v = .slice a6 0 c6 := by
              obtain ⟨a6, c6, h6⟩ := HO5.out.reads.slice
              rw [HN0.out] at h6; exact ⟨a6, c6, h6⟩
            obtain ⟨a6, c6, rfl⟩ := hvl
            go_wp2_with fail
            go_ret
            exact ⟨by first | rfl | simp, HB5.out⟩
          · obtain ⟨N, hN⟩ : ∃ N, l.length = N := ⟨_, rfl⟩
            have HN := Lib.hid hN
            have hN0 : 0 < N := by omega
            have hN9 : N ≤ 10 := by omega
            have hks := Lib.hid (T9 rfl (by omega))
            obtain ⟨J, HJ⟩ : ∃ J, Hid (pl.jline l = J) := ⟨_, Lib.hid rfl⟩
            have hjn : Hid (pl.joinB l ⟨#[32]⟩ = J) := Lib.hid (by rw [← HJ.out]; rfl)
            have hjz : J.size = k := by rw [← HJ.out, pl.jline_size, ← hks.out]
            clear hN h0 T9
            go_wp2_with fail
            refine (iWrapWords_any l k v _ HO3.out.lreads HLN.out HSZ.out).mono ?_
            rintro e w4 ⟨v4, rfl, ho4, hb4⟩
            rw [hkf.out]
            obtain ⟨a4, c4, rfl⟩ := ho4.reads.slice
            rw [hm4.out]
            have HO4 := Lib.hid (HO3.out.below (Nat.le_refl _) hb4)
            have HB4 := Lib.hid (HB3.out.trans (hb4.mono HB3.out.size))
            clear ho4 hb4
            go_wp2_with fail
            refine (iWrapWords_any l ((k : Int) - 1) v _ HO4.out.lreads HLN.out HSZ.out).mono ?_
            rintro e w5 ⟨v5, rfl, ho5, hb5⟩
            rw [hgd]
            obtain ⟨a5, c5, rfl⟩ := ho5.reads.slice
            rw [hm5.out]
            have HO5 := Lib.hid (HO4.out.below (Nat.le_refl _) hb5)
            have HB5 := Lib.hid (HB4.out.trans (hb5.mono HB4.out.size))
            clear ho5 hb5
            have hvl : ∃ a6 c6, v = .slice a6 N c6 := by
              obtain ⟨a6, c6, h6⟩ := HO5.out.reads.slice
              rw [HN.out] at h6; exact ⟨a6, c6, h6⟩
            obtain ⟨a6, c6, rfl⟩ := hvl
            go_wp2_with fail
            refine (joined_any l ⟨#[32]⟩ _ _ HO5.out.reads (by rw [HN.out]; omega) (by rw [hjn.out, hjz]; omega)).mono ?_
            rintro e w' ⟨rfl, rfl⟩
            rw [hjn.out]
            go_wp2_with fail
            go_ret
            exact ⟨by first | rfl | simp, HB5.out⟩
      · have hgd : pl.fitA l ((k : Int) - 1) = false := by simpa using hgd
        clear T8
        by_cases hn1 : 1 < x
        · have hn1' := hn1
          go_wp2_with fail
          refine (iWrapWords_any l k v _ HO3.out.lreads HLN.out HSZ.out).mono ?_
          rintro e w4 ⟨v4, rfl, ho4, hb4⟩
          rw [hkf.out]
          obtain ⟨a4, c4, rfl⟩ := ho4.reads.slice
          rw [hm4.out]
          have HO4 := Lib.hid (HO3.out.below (Nat.le_refl _) hb4)
          have HB4 := Lib.hid (HB3.out.trans (hb4.mono HB3.out.size))
          clear ho4 hb4
          go_wp2_with fail
          refine (iWrapWords_any l ((k : Int) - 1) v _ HO4.out.lreads HLN.out HSZ.out).mono ?_
          rintro e w5 ⟨v5, rfl, ho5, hb5⟩
          rw [hgd]
          obtain ⟨a5, c5, rfl⟩ := ho5.reads.slice
          rw [hm5.out]
          have HO5 := Lib.hid (HO4.out.below (Nat.le_refl _) hb5)
          have HB5 := Lib.hid (HB4.out.trans (hb5.mono HB4.out.size))
          clear ho5 hb5
          go_wp2_with fail
          go_ret
          exact ⟨by first | rfl | simp, HB5.out⟩
        · obtain rfl : x = 1 := by omega
          by_cases h0 : l.length = 0
          · have HN0 := Lib.hid h0
            go_wp2_with fail
            refine (iWrapWords_any l k v _ HO3.out.lreads HLN.out HSZ.out).mono ?_
            rintro e w4 ⟨v4, rfl, ho4, hb4⟩
            rw [hkf.out]
            obtain ⟨a4, c4, rfl⟩ := ho4.reads.slice
            rw [hm4.out]
            have HO4 := Lib.hid (HO3.out.below (Nat.le_refl _) hb4)
            have HB4 := Lib.hid (HB3.out.trans (hb4.mono HB3.out.size))
            clear ho4 hb4
            go_wp2_with fail
            refine (iWrapWords_any l ((k : Int) - 1) v _ HO4.out.lreads HLN.out HSZ.out).mono ?_
            rintro e w5 ⟨v5, rfl, ho5, hb5⟩
            rw [hgd]
            obtain ⟨a5, c5, rfl⟩ := ho5.reads.slice
            rw [hm5.out]
            have HO5 := Lib.hid (HO4.out.below (Nat.le_refl _) hb5)
            have HB5 := Lib.hid (HB4.out.trans (hb5.mono HB4.out.size))
            clear ho5 hb5
            have hvl : ∃ a6 c6, v = .slice a6 0 c6 := by
              obtain ⟨a6, c6, h6⟩ := HO5.out.reads.slice
              rw [HN0.out] at h6; exact ⟨a6, c6, h6⟩
            obtain ⟨a6, c6, rfl⟩ := hvl
            go_wp2_with fail
            go_ret
            exact ⟨by first | rfl | simp, HB5.out⟩
          · obtain ⟨N, hN⟩ : ∃ N, l.length = N := ⟨_, rfl⟩
            have HN := Lib.hid hN
            have hN0 : 0 < N := by omega
            have hN9 : N ≤ 10 := by omega
            have hks := Lib.hid (T9 rfl (by omega))
            obtain ⟨J, HJ⟩ : ∃ J, Hid (pl.jline l = J) := ⟨_, Lib.hid rfl⟩
            have hjn : Hid (pl.joinB l ⟨#[32]⟩ = J) := Lib.hid (by rw [← HJ.out]; rfl)
            have hjz : J.size = k := by rw [← HJ.out, pl.jline_size, ← hks.out]
            clear hN h0 T9
            go_wp2_with fail
            refine (iWrapWords_any l k v _ HO3.out.lreads HLN.out HSZ.out).mono ?_
            rintro e w4 ⟨v4, rfl, ho4, hb4⟩
            rw [hkf.out]
            obtain ⟨a4, c4, rfl⟩ := ho4.reads.slice
            rw [hm4.out]
            have HO4 := Lib.hid (HO3.out.below (Nat.le_refl _) hb4)
            have HB4 := Lib.hid (HB3.out.trans (hb4.mono HB3.out.size))
            clear ho4 hb4
            go_wp2_with fail
            refine (iWrapWords_any l ((k : Int) - 1) v _ HO4.out.lreads HLN.out HSZ.out).mono ?_
            rintro e w5 ⟨v5, rfl, ho5, hb5⟩
            rw [hgd]
            obtain ⟨a5, c5, rfl⟩ := ho5.reads.slice
            rw [hm5.out]
            have HO5 := Lib.hid (HO4.out.below (Nat.le_refl _) hb5)
            have HB5 := Lib.hid (HB4.out.trans (hb5.mono HB4.out.size))
            clear ho5 hb5
            have hvl : ∃ a6 c6, v = .slice a6 N c6 := by
              obtain ⟨a6, c6, h6⟩ := HO5.out.reads.slice
              rw [HN.out] at h6; exact ⟨a6, c6, h6⟩
            obtain ⟨a6, c6, rfl⟩ := hvl
            go_wp2_with fail
            refine (joined_any l ⟨#[32]⟩ _ _ HO5.out.reads (by rw [HN.out]; omega) (by rw [hjn.out, hjz]; omega)).mono ?_
            rintro e w' ⟨rfl, rfl⟩
            rw [hjn.out]
            go_wp2_with fail
            go_ret
            exact ⟨by first | rfl | simp, HB5.out⟩
end Go.Proofs.Ytfajllfedhifkaa
