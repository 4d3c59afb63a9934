/- DrawCostOf, and the walk of FnCostOf. -/
import Derived.Test.YtfajllfedhifkaaSomeLines
import Derived.Test.YtfajllfedhifkaaCost
import Derived.Laws.AppendOwnNone
namespace Go.Proofs.Ytfajllfedhifkaa
open Go.RowKit
set_option maxRecDepth 100000

set_option maxHeartbeats 1000000 in
theorem dCostOf_any (a : Option Addr) (len cap : Nat) (zs : List Int) (w : World) (hr : IsRow .u8 w a len cap zs) :
    Calls Try.prog 24 #[.slice a len cap] w fun e w' => ∃ (v : Value) (l : List ByteArray) (x : Int), e = .returned (.tuple #[v, .int .i64 x]) ∧ OStrs w.heap.size w' v l ∧ l.length ≤ 6 ∧ few 120 l ∧ 0 ≤ x ∧ x ≤ 121 ∧ Below w.heap.size w w' := by
  go_enter Try.func24, Try.ntmps24
  go_wp2_with fail
  refine (newReader_any a len cap zs _ hr).mono ?_
  rintro e w1 ⟨n, c, rfl, hR, hb1⟩
  go_wp2_with fail
  refine (someLines_any _ _ n c 0 a _ hR (by omega)).mono ?_
  rintro e w2 ⟨v, l, rfl, ho, hl, hf, p2, hp2, hR2, hg2⟩
  have b2 := Lib.hid (hb1.grown hg2 hb1.size (fun k hk => by cases hk; exact Nat.le_refl _))
  have HO := Lib.hid ho
  have S1 := Lib.hid hb1.size
  clear ho
  go_wp2_with fail
  refine (one_lit 0 121 7 _ rfl (by omega) (by omega) ?_ _ _ n c p2 a _ hR2 (by omega)).mono ?_
  · simp [okInts]
  rintro e w3 ⟨x, rfl, hx0, hx6, p3, hp3, hR3, hg3⟩
  have b3 := Lib.hid (b2.out.grown hg3 b2.out.size (fun k hk => by cases hk; exact Nat.le_refl _))
  have HO3 := Lib.hid (HO.out.read hg3 hR.lt)
  go_wp2_with fail
  go_ret2
  exact ⟨v, l, x, rfl, HO3.out.mono S1.out, hl, hf, hx0, hx6, b3.out⟩

namespace pl
theorem costR_parts {l : List ByteArray} {wd : Int} (h : 0 ≤ costR l wd) : validLs l = true ∧ inR wd 1 120 = true ∧ shortAll l wd = true := by
  unfold costR at h
  by_cases hc : (validLs l && inR wd 1 120 && shortAll l wd) = true
  · simp only [Bool.and_eq_true] at hc
    exact ⟨hc.1.1, hc.1.2, hc.2⟩
  · rw [if_neg hc] at h; omega
theorem nth_app_left {l : List ByteArray} {x : ByteArray} {i : Nat} (h : i < l.length) : nth (l ++ [x]) i = nth l i := by
  rw [nth_eq h, nth_eq (by simp; omega), List.getElem_append_left h]
theorem nth_app_last {l : List ByteArray} {x : ByteArray} : nth (l ++ [x]) l.length = x := by
  rw [nth_eq (by simp)]; simp
theorem costR_more {l : List ByteArray} {wd : Int} (h : 0 ≤ costR l wd) (hl : l.length ≤ 19) : costR (l ++ [⟨#[]⟩]) wd = costTo wd (lsz l) l.length := by
  obtain ⟨h1, h2, h3⟩ := costR_parts h
  have hw := inR_parts h2
  have v2 : validLs (l ++ [⟨#[]⟩]) = true := by
    rw [validLs_all]
    · simp; omega
    · intro i hi
      by_cases e : i < l.length
      · rw [nth_app_left e]; exact validLs_nth h1 e
      · have : i = l.length := by simp at hi; omega
        subst this; rw [nth_app_last]; rfl
  have s2 : shortAll (l ++ [⟨#[]⟩]) wd = true := by
    apply shortAll_yes
    intro i hi
    by_cases e : i < l.length
    · rw [nth_app_left e]; exact shortAll_parts h3 i e
    · have : i = l.length := by simp at hi; omega
      subst this; rw [nth_app_last]
      show (0 : Int) ≤ wd
      omega
  rw [costR_yes v2 h2 s2]
  unfold costL
  rw [List.length_append]
  exact costTo_congr _ (fun i hi => by unfold lsz; rw [nth_app_left (by simpa using hi)])
theorem costR_last {l : List ByteArray} {wd : Int} {p : Nat} (h : 0 ≤ costR l wd) (hp : l.length = p + 1) : costTo wd (lsz l) l.length = costR l wd + (wd - lsz l p) * (wd - lsz l p) := by
  obtain ⟨h1, h2, h3⟩ := costR_parts h
  rw [costR_yes h1 h2 h3]
  unfold costL
  rw [hp]; rfl
end pl

/-- three blocks more: the last one begins with an empty text -/
theorem made_size (w : World) (o1 o2 o3 : Obj) : w.heap.size ≤ (((w.alloc o1).alloc o2).alloc o3).drew.heap.size := by
  show w.heap.size ≤ (((w.alloc o1).alloc o2).alloc o3).heap.size
  simp; omega
theorem made_below (w : World) (o1 o2 o3 : Obj) : Below w.heap.size w (((w.alloc o1).alloc o2).alloc o3).drew := by
  have h : Below w.heap.size w (((w.alloc o1).alloc o2).alloc o3) := (((Below.refl _ _).alloc (Nat.le_refl _) _).alloc (by simp) _).alloc (by simp; omega) _
  exact h.drew
theorem one_made (w : World) (o1 o2 : Obj) (zs : Array Value) (c : Nat) : RStrs (((w.alloc o1).alloc o2).alloc (.cells (#[.string ⟨#[]⟩] ++ zs) 9)).drew (.slice (some ⟨w.heap.size + 1 + 1, 0, none⟩) 1 c) [⟨#[]⟩] := by
  refine .inr ⟨by simp, w.heap.size + 1 + 1, 0, c, rfl, ?_, fun i hi => ?_⟩
  · show _ < (((w.alloc o1).alloc o2).alloc _).heap.size
    simp
  · obtain rfl : i = 0 := by simp at hi; omega
    have e : w.heap.size + 1 + 1 = ((w.alloc o1).alloc o2).heap.size := by simp
    show (((w.alloc o1).alloc o2).alloc _).cell? _ = _
    rw [e]
    simp only [World.cell?, heap_alloc_new]
    simp [nth, Array.getElem?_append]
theorem one_small : ∀ i, i < [(⟨#[]⟩ : ByteArray)].length → (nth [(⟨#[]⟩ : ByteArray)] i).size ≤ maxLen := by
  intro i hi
  obtain rfl : i = 0 := by simp at hi; omega
  exact Nat.zero_le _

set_option maxHeartbeats 4000000 in
theorem fnCostOf_walk (a : Option Addr) (len cap : Nat) (zs : List Int) (w : World) (hr : IsRow .u8 w a len cap zs) :
    Calls Try.prog 4 #[.slice a len cap] w fun e w' => e = .returned (.bool true) ∧ Below w.heap.size w w' := by
  obtain ⟨i0, hi, hz0, hz1, hz2⟩ := info_parts infoS
  have hlen := row_len hr
  by_cases hb : 1048576 < len
  · go_enter Try.func4, Try.ntmps4
    go_wp2
    go_ret
    exact ⟨rfl, Below.refl _ _⟩
  · go_enter Try.func4, Try.ntmps4
    go_wp2_with fail
    refine (dCostOf_any a len cap zs _ hr).mono ?_
    rintro e w1 ⟨v, l, x, rfl, ho, hl, hf, hx0, hx1, hb1⟩
    have HO1 := Lib.hid ho
    have HB1 := Lib.hid hb1
    have HLN : Hid (l.length ≤ maxLen) := Lib.hid (by unfold maxLen; omega)
    have HSZ : Hid (∀ i, i < l.length → (nth l i).size ≤ maxLen) := Lib.hid (fun i hi => by have := hf i hi; unfold maxLen; omega)
    have HF := Lib.hid hf
    have HL6 := Lib.hid hl
    obtain ⟨C, hC⟩ : ∃ C, Hid (pl.costR l x = C) := ⟨_, Lib.hid rfl⟩
    clear ho hb1 hf
    go_wp2_with fail
    refine (iCostOf_any l x v _ HO1.out.reads HLN.out HSZ.out).mono ?_
    rintro e w2 ⟨rfl, hb2⟩
    rw [hC.out]
    have HO2 := Lib.hid (HO1.out.below (Nat.le_refl _) hb2)
    have HB2 := Lib.hid (HB1.out.trans (hb2.mono HB1.out.size))
    clear hb2
    by_cases hneg : C < 0
    · go_wp2_with fail
      refine (sCostOf_any l x v _ HO2.out.reads HLN.out HSZ.out).mono ?_
      rintro e w' ⟨rfl, rfl⟩
      rw [hC.out]
      go_wp2_with fail
      refine (sCostOf_any l x v _ HO2.out.reads HLN.out HSZ.out).mono ?_
      rintro e w' ⟨rfl, rfl⟩
      rw [hC.out]
      go_wp2_with fail
      go_ret
      exact ⟨rfl, HB2.out⟩
    · have hC0 : Hid (0 ≤ pl.costR l x) := Lib.hid (by rw [hC.out]; omega)
      have hwd := pl.inR_parts (pl.costR_parts hC0.out).2.1
      have hCb : C ≤ 14400 * 20 := by
        obtain ⟨h1, h2, h3⟩ := pl.costR_parts hC0.out
        rw [← hC.out, pl.costR_yes h1 h2 h3]
        have h := pl.costTo_bound (wd := x) (z := pl.lsz l) hwd.2 (l.length - 1) (fun i hi => ⟨by unfold pl.lsz; omega, pl.shortAll_parts h3 i (by omega)⟩)
        unfold pl.costL
        refine Int.le_trans h.2 ?_
        omega
      have hmore := Lib.hid (pl.costR_more hC0.out (by omega))
      go_wp2_with fail
      refine (sCostOf_any l x v _ HO2.out.reads HLN.out HSZ.out).mono ?_
      rintro e w' ⟨rfl, rfl⟩
      rw [hC.out]
      have hv2 := HO2.out.2
      have HLN2 : Hid ((l ++ [(⟨#[]⟩ : ByteArray)]).length ≤ maxLen) := Lib.hid (by rw [List.length_append]; unfold maxLen; simp; omega)
      have HSZ2 : Hid (∀ i, i < (l ++ [(⟨#[]⟩ : ByteArray)]).length → (nth (l ++ [(⟨#[]⟩ : ByteArray)]) i).size ≤ maxLen) := Lib.hid (fun i hi => by
        by_cases e : i < l.length
        · rw [pl.nth_app_left e]; exact HSZ.out i e
        · have : i = l.length := by simp at hi; omega
          subst this; rw [pl.nth_app_last]; exact Nat.zero_le _)
      have HL2 := Lib.hid HO2.out.reads
      rcases hv2 with ⟨rfl, hn0⟩ | ⟨g, cap2, cur, rfl, hB, hg, hle, hm, hs, htake⟩
      · have hl0 : l = [] := List.length_eq_zero_iff.1 hn0
        subst hl0
        clear hn0
        go_wp2_with fail
        refine (iCostOf_any [⟨#[]⟩] x _ _ (one_made w2 _ _ _ _) (by simp [maxLen]) one_small).mono ?_
        rintro e w5 ⟨rfl, hb5⟩
        have HB5 := Lib.hid (HB2.out.trans ((made_below w2 _ _ _).trans (hb5.mono (made_size w2 _ _ _))|>.mono HB2.out.size))
        clear hb5
        go_wp2_with fail
        go_ret
        exact ⟨rfl, HB5.out⟩
      · by_cases hnil : l = []
        · subst hnil
          rw [List.length_nil]
          go_wp2_with fail
          refine (iCostOf_any [⟨#[]⟩] x _ _ (one_made w2 _ _ _ _) (by simp [maxLen]) one_small).mono ?_
          rintro e w5 ⟨rfl, hb5⟩
          have HB5 := Lib.hid (HB2.out.trans ((made_below w2 _ _ _).trans (hb5.mono (made_size w2 _ _ _))|>.mono HB2.out.size))
          clear hb5
          go_wp2_with fail
          go_ret
          exact ⟨rfl, HB5.out⟩
        · have HC : Hid (∀ j u, (l.map Value.string)[j]? = some u → (w2.alloc (.cells #[] 9)).cell? ((⟨g, 0, none⟩ : Addr).add j) = some u) := Lib.hid (fun j u hu => by
            have hadd : (⟨g, 0, none⟩ : Addr).add j = ⟨g, j, none⟩ := by unfold Addr.add; split <;> simp_all
            have hj : j < l.length := by
              have := (List.getElem?_eq_some_iff.1 hu).1
              simpa using this
            have ho := HO2.out.alloc (.cells #[] 9)
            unfold OStrs at ho
            rw [hadd, World.ownsRow.cellAt ho j (by omega)]
            exact hu)
          have HOZ : (w2.alloc (.cells #[] 9)).ownsRow w2.heap.size 9 1 (.slice (some ⟨w2.heap.size, 0, none⟩) 0 0) 0 [] := World.ownsRow_made _ _ _ (Nat.le_refl _) (by unfold maxLen; omega) rfl
          clear hg hs htake
          go_wp2_with (at_builtin; refine wpList_append_own _ rfl _ _ 23 rfl w2.heap.size 9 i0 (.string ByteArray.empty) 1 16 Try.underlying23 hi hz0 hz1 hz2 rfl (by decide) _ _ _ rfl HOZ ⟨g, 0, none⟩ l.length cap2 (l.map Value.string) rfl (by simp) HC.out ?cB2 ?cB3 ?cB4 ?cB5 ?_)
          case cB2 => intro u hu; rw [List.mem_map] at hu; obtain ⟨s, _, rfl⟩ := hu; rfl
          case cB3 => unfold maxLen; omega
          case cB4 => omega
          case cB5 => simp
          intro v3 w3 hown' hgrow _
          have HB3 : Hid (Below w2.heap.size w2 w3) := Lib.hid (((Below.refl _ _).alloc (Nat.le_refl _) _).grown hgrow (by simp) (fun k hk => by cases hk; exact Nat.le_refl _))
          have HO3 : Hid (OStrs w2.heap.size w3 v3 l) := Lib.hid (by unfold OStrs; simpa using hown')
          clear hown' hgrow HOZ
          have hst := Lib.hid hC0.out
          have hsz3 := HB3.out.size
          go_wp2_with (at_builtin; refine wpList_append_own _ rfl _ _ 23 rfl w2.heap.size 9 i0 (.string ByteArray.empty) 1 16 Try.underlying23 hi hz0 hz1 hz2 rfl (by decide) _ _ _ rfl (World.ownsRow.alloc HO3.out _) ⟨_, 0, none⟩ 1 1 [.string ⟨#[]⟩] rfl rfl ?cA1 ?cA2 ?cA3 ?cA4 ?cA5 ?_)
          case cA1 => exact cell_one_new _ _ _
          case cA2 => intro u hu; simp at hu; subst hu; rfl
          case cA3 => unfold maxLen; omega
          case cA4 => omega
          case cA5 => simp; omega
          intro v4 w4 hown' hgrow _
          have hb4 : Below w2.heap.size w3 w4 := ((Below.refl _ _).alloc hsz3 _).grown hgrow (by simp; omega) (fun k hk => (World.ownsRow.lt HO3.out k hk).1)
          have HO4 := Lib.hid (OStrs.push1 hown')
          have HB4 := Lib.hid (HB2.out.trans ((HB3.out.trans hb4).mono HB2.out.size))
          have HL4 := Lib.hid (HL2.out.below (Nat.le_refl _) (HB3.out.trans hb4))
          clear hown' hgrow hb4
          go_wp2_with fail
          refine (iCostOf_any _ x v4 _ HO4.out.reads HLN2.out HSZ2.out).mono ?_
          rintro e w5 ⟨rfl, hb5⟩
          rw [hmore.out]
          have HB5 := Lib.hid (HB4.out.trans (hb5.mono HB4.out.size))
          have HL5 := Lib.hid (HL4.out.below (Nat.le_refl _) hb5)
          clear hb5
          obtain ⟨q, hq⟩ : ∃ q, l.length = q + 1 := ⟨l.length - 1, by have := List.length_pos_iff.2 hnil; omega⟩
          have hls := Lib.hid (pl.costR_last hC0.out hq)
          have HQ := Lib.hid hq
          have hq5 : q ≤ 5 := by omega
          obtain ⟨y, HY⟩ : ∃ y, Hid (nth l q = y) := ⟨_, Lib.hid rfl⟩
          have hyx : (y.size : Int) ≤ x := by rw [← HY.out]; exact pl.shortAll_parts (pl.costR_parts hC0.out).2.2 q (by omega)
          have hcy : w5.cell? ⟨g, q, none⟩ = some (.string y) := by
            obtain ⟨b1, o1, e1, h1⟩ := HL5.out.at (n := l.length) rfl (Below.refl _ _) (k := q) (by omega)
            injection e1 with e1
            injection e1 with e1 e2
            rw [← e1, ← e2, Nat.zero_add, HY.out] at h1
            exact h1
          obtain ⟨m, hm⟩ : ∃ m : Int, Hid (x - (y.size : Int) = m) := ⟨_, Lib.hid rfl⟩
          have hm2 := hm.out
          have hmb := pl.miss_bound (wd := x) (a := (y.size : Int)) (by omega) hyx hwd.2
          rw [hm.out] at hmb
          have hfin : Hid (pl.costTo x (pl.lsz l) l.length = C + m * m) := Lib.hid (by
            have h := hls.out
            unfold pl.lsz at h
            rw [HY.out, hm.out, hC.out] at h
            exact h)
          rw [hfin.out]
          rw [hq] at *
          go_wp2_with fail
          all_goals go_ret
          all_goals exact ⟨by first | rfl | simp, HB5.out⟩
end Go.Proofs.Ytfajllfedhifkaa
