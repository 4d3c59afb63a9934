/- The walk of FnIndentLines. -/
import Derived.Test.YtkbfceahhginhaaRRRRDoorRRRRPlainO
import Derived.Test.YtkbfceahhginhaaRRRRDoorRRRRLawM
import Derived.Laws.AppendOwnNone
namespace Go.Proofs.YtkbfceahhginhaaRRRRDoorRRRR
open Go.RowKit
set_option maxRecDepth 100000

theorem OStrs.cat {B : Nat} {w' : World} {v' : Value} {l l2 : List ByteArray} (h : w'.ownsRow B 9 1 v' (l.length + l2.length) (l.map Value.string ++ l2.map Value.string)) : OStrs B w' v' (l ++ l2) := by
  unfold OStrs
  simpa using h

theorem equalTexts_same (l l2 : List ByteArray) (he : l = l2) (va vb : Value) (w : World) (hA : RStrs w va l) (hB : RStrs w vb l2) (hl : l.length ≤ 2000000) :
    Calls Tryd.prog 10 #[va, vb] w fun e w' => e = .returned (.bool true) ∧ Below w.heap.size w w' :=
  (equalTexts_any l l2 va vb w hA hB hl).mono fun e w' ⟨h1, h2⟩ => ⟨by rw [h1]; simp [he], h2⟩

set_option maxHeartbeats 2000000 in
theorem allWords_any (l : List ByteArray) (v : Value) (w : World) (hr : RStrs w v l) (hlen : l.length ≤ 1000) (hsz : ∀ i, i < l.length → (nth l i).size ≤ 1048576) :
    Calls Tryd.prog 17 #[v] w fun e w' => ∃ v', e = .returned v' ∧ OStrs w.heap.size w' v' (pl.aTo l l.length) ∧ Below w.heap.size w w' := by
  obtain ⟨i0, hi, hz0, hz1, hz2⟩ := info_parts infoS
  obtain ⟨n, hn⟩ : ∃ n, n = l.length := ⟨_, rfl⟩
  have HN := Lib.hid hn
  have HSZ := Lib.hid hsz
  have hrr := Lib.hid hr
  obtain ⟨a0, cap0, rfl⟩ := hr.slice
  rw [← hn] at hlen hrr ⊢
  clear hn hr hsz
  go_enter Tryd.func17, Tryd.ntmps17
  go_wp2_with fail
  go_loopw [3, 4] (fun ov iv wr => ∃ (k : Nat), k ≤ n ∧ iv = .int .i64 k ∧ OStrs w.heap.size wr ov (pl.aTo l k) ∧ Below w.heap.size w wr) (fun _ iv _ => n - (intOf iv).toNat)
  case atStart => exact ⟨0, Nat.zero_le _, rfl, World.ownsRow_made _ _ _ (Nat.le_refl _) (by unfold maxLen; omega) rfl, (Below.refl _ _).alloc (Nat.le_refl _) _⟩
  case round =>
    obtain ⟨k, hk, rfl, hown, hbel⟩ := hrel
    by_cases hlt : k < n
    · have hkl : Hid (k < l.length) := Lib.hid (by rw [← HN.out]; exact hlt)
      obtain ⟨b1, o1, rfl, hx⟩ := hrr.out.at HN.out hbel hlt
      have hxm := HSZ.out k hkl.out
      obtain ⟨x, HX⟩ : ∃ x, Hid (nth l k = x) := ⟨_, Lib.hid rfl⟩
      rw [HX.out] at hx hxm
      have hst := Lib.hid (pl.aTo_succ hkl.out HX.out)
      have hal := pl.aTo_len l k (by have := hkl.out; omega)
      have hwl := pl.wordsOf_len x
      have HO := Lib.hid hown
      have HB := Lib.hid hbel
      clear hown hbel
      go_wp2_with fail
      refine (iWordsOf_any x _ (by unfold maxLen; omega)).mono ?_
      rintro e wr2 ⟨vw, rfl, how, hbw⟩
      have HO2 := Lib.hid (HO.out.below (Nat.le_refl _) hbw)
      have HB2 := Lib.hid (HB.out.trans (hbw.mono HB.out.size))
      have hsz2 := HB2.out.size
      obtain ⟨W, HW⟩ : ∃ W, Hid (pl.wordsOf x = W) := ⟨_, Lib.hid rfl⟩
      rw [HW.out] at how hwl hst
      clear hbw hx
      have how2 := how
      rcases how2.2 with ⟨rfl, hn0⟩ | ⟨g, cap, cur, rfl, hB, hg, hle, hm, hs, htake⟩
      · have hW0 : W = [] := List.length_eq_zero_iff.1 hn0
        rw [hW0, List.append_nil] at hst
        clear how how2 hn0
        go_wp2_with (at_builtin; refine wpList_append_own_none rfl _ _ 23 rfl w.heap.size 9 i0 1 Tryd.underlying23 hi _ _ _ rfl HO2.out rfl ?_)
        have hown1 := HO2.out
        rw [hst.out] at hown1
        go_wp2
        go_roundw
        case rel => exact ⟨k + 1, by omega, by go_num, hown1, HB2.out⟩
        case measure => simp [intOf]; omega
      · have HC : Hid (∀ j u, (W.map Value.string)[j]? = some u → wr2.cell? ((⟨g, 0, none⟩ : Addr).add j) = some u) := Lib.hid (fun j u hu => by
          have hadd : (⟨g, 0, none⟩ : Addr).add j = ⟨g, j, none⟩ := by unfold Addr.add; split <;> simp_all
          have hj : j < W.length := by
            have := (List.getElem?_eq_some_iff.1 hu).1
            simpa using this
          rw [hadd, World.ownsRow.cellAt how j (by omega)]
          exact hu)
        clear how how2 hg hs htake
        go_wp2_with (at_builtin; refine wpList_append_own _ rfl _ _ 23 rfl w.heap.size 9 i0 (.string ByteArray.empty) 1 16 Tryd.underlying23 hi hz0 hz1 hz2 rfl (by decide) _ _ _ rfl HO2.out ⟨g, 0, none⟩ W.length cap (W.map Value.string) rfl (by simp) HC.out ?cA2 ?cA3 ?cA4 ?cA5 ?_)
        case cA2 => intro u hu; rw [List.mem_map] at hu; obtain ⟨s, _, rfl⟩ := hu; rfl
        case cA3 => unfold maxLen; omega
        case cA4 => omega
        case cA5 => omega
        intro v' w1 hown' hgrow _
        have hb1 : Below w.heap.size w w1 := HB2.out.grown hgrow hsz2 (fun k hk => (World.ownsRow.lt HO2.out k hk).1)
        have hown1 := OStrs.cat hown'
        rw [hst.out] at hown1
        clear hown' hgrow
        go_wp2
        go_roundw
        case rel => exact ⟨k + 1, by omega, by go_num, hown1, hb1⟩
        case measure => simp [intOf]; omega
    · obtain rfl : k = n := by omega
      go_wp2_with fail
      go_ret
      exact ⟨_, rfl, hown, hbel⟩

namespace pl
theorem indR_len2 (l : List ByteArray) (a : Int) : (indR l a).length ≤ l.length := by
  unfold indR; split
  · rw [ind_len]; exact Nat.le_refl _
  · exact Nat.zero_le _
end pl

set_option maxHeartbeats 2000000 in
theorem fnIndentLines_walk (a : Option Addr) (len cap : Nat) (zs : List Int) (w : World) (hr : IsRow .u8 w a len cap zs) :
    Calls Tryd.prog 4 #[.slice a len cap] w fun e w' => e = .returned (.bool true) ∧ Below w.heap.size w w' := by
  have hlen := row_len hr
  by_cases hb : 1048576 < len
  · go_enter Tryd.func4, Tryd.ntmps4
    go_wp2
    go_ret
    exact ⟨rfl, Below.refl _ _⟩
  · go_enter Tryd.func4, Tryd.ntmps4
    go_wp2_with fail
    refine (dIndentLines_any a len cap zs _ hr).mono ?_
    rintro e w1 ⟨v, l, x, rfl, ho, hl, hf, hx0, hx1, hb1⟩
    have HO1 := Lib.hid ho
    have HB1 := Lib.hid hb1
    have HLN : Hid (l.length ≤ 1048576) := Lib.hid (by omega)
    have HSZ : Hid (∀ i, i < l.length → (nth l i).size ≤ 1048576) := Lib.hid (fun i hi => by have := hf i hi; omega)
    clear ho hb1 hf
    go_wp2_with fail
    refine (iIndent_any l x v _ HO1.out.reads HLN.out HSZ.out).mono ?_
    rintro e w2 ⟨v5, rfl, ho5, hb2⟩
    have C2 := Lib.hid ho5
    have HO2 := Lib.hid (HO1.out.below (Nat.le_refl _) hb2)
    have HB2 := Lib.hid (HB1.out.trans (hb2.mono HB1.out.size))
    clear ho5 hb2
    by_cases hG : pl.indB l x = true
    · obtain ⟨n, rfl, hn10, hv, hvi⟩ := pl.indB_true hG
      have hD := Lib.hid (pl.indR_yes hG)
      have hdd := Lib.hid (pl.dedR_ind hv hvi)
      have hm1 := Lib.hid (pl.marginB_ok hvi)
      have hm2 := Lib.hid (pl.marginB_at hv)
      have hm3 := Lib.hid (pl.margin_nat l)
      have hmb := pl.margin_bd hv
      have HG := Lib.hid hG
      have HZI : Hid (∀ i, i < (pl.ind l n).length → (nth (pl.ind l n) i).size ≤ 1048576) := Lib.hid (fun i hi => by have := pl.ind_size hv hn10 i hi; omega)
      have HLI : Hid ((pl.ind l n).length ≤ 1048576) := Lib.hid (by rw [pl.ind_len]; exact HLN.out)
      rw [hD.out] at C2
      clear hv hvi hG
      rw [HG.out]
      go_wp2_with fail
      refine (sIndent_any l n v _ HO2.out.reads HLN.out HSZ.out).mono ?_
      rintro e w3 ⟨v7, rfl, ho7, hb3⟩
      rw [hD.out] at ho7
      rw [HG.out]
      have D3 := Lib.hid ho7
      have C3 := Lib.hid (C2.out.below (Nat.le_refl _) hb3)
      have HO3 := Lib.hid (HO2.out.below (Nat.le_refl _) hb3)
      have HB3 := Lib.hid (HB2.out.trans (hb3.mono HB2.out.size))
      clear ho7 hb3
      go_wp2_with fail
      refine (equalTexts_same (pl.ind l n) (pl.ind l n) rfl v5 v7 _ C3.out.reads D3.out.reads (by have := HLI.out; omega)).mono ?_
      rintro e w4 ⟨rfl, hb4⟩
      have C4 := Lib.hid (C3.out.below (Nat.le_refl _) hb4)
      have HO4 := Lib.hid (HO3.out.below (Nat.le_refl _) hb4)
      have HB4 := Lib.hid (HB3.out.trans (hb4.mono HB3.out.size))
      clear hb4
      go_wp2_with fail
      refine (allWords_any l v _ HO4.out.reads (by omega) HSZ.out).mono ?_
      rintro e w5 ⟨vA, rfl, hoA, hb5⟩
      have C5 := Lib.hid (C4.out.below (Nat.le_refl _) hb5)
      have HO5 := Lib.hid (HO4.out.below (Nat.le_refl _) hb5)
      have HB5 := Lib.hid (HB4.out.trans (hb5.mono HB4.out.size))
      obtain ⟨aA, cA, hvA⟩ := hoA.reads.slice
      subst hvA
      clear hoA hb5
      have hsome := Lib.hid (pl.aTo_some (l := l) l.length (Nat.le_refl _))
      obtain ⟨q, HQ⟩ : ∃ q, Hid ((pl.aTo l l.length).length = q) := ⟨_, Lib.hid rfl⟩
      rw [HQ.out] at hsome ⊢
      go_wp2_with fail
      refine (iDedent_any (pl.ind l n) v5 _ C5.out.reads HLI.out HZI.out).mono ?_
      rintro e w6 ⟨vd, rfl, hod, hb6⟩
      rw [hdd.out] at hod
      have D6 := Lib.hid hod
      have C6 := Lib.hid (C5.out.below (Nat.le_refl _) hb6)
      have HO6 := Lib.hid (HO5.out.below (Nat.le_refl _) hb6)
      have HB6 := Lib.hid (HB5.out.trans (hb6.mono HB5.out.size))
      clear hod hb6
      go_wp2_with fail
      refine (iDedent_any l v _ HO6.out.reads HLN.out HSZ.out).mono ?_
      rintro e w7 ⟨ve, rfl, hoe, hb7⟩
      have E7 := Lib.hid hoe
      have D7 := Lib.hid (D6.out.below (Nat.le_refl _) hb7)
      have C7 := Lib.hid (C6.out.below (Nat.le_refl _) hb7)
      have HO7 := Lib.hid (HO6.out.below (Nat.le_refl _) hb7)
      have HB7 := Lib.hid (HB6.out.trans (hb7.mono HB6.out.size))
      clear hoe hb7
      by_cases hq : 0 < q
      · have hqi : (0 : Int) < (q : Int) := by omega
        obtain ⟨i, hi, hbi⟩ := hsome.out hq
        have hmm : Hid (pl.marginB (pl.ind l n) = (((pl.marginL l).toNat : Nat) : Int) + n) := Lib.hid (by rw [hm1.out, pl.ind_margin hi hbi, hm3.out])
        obtain ⟨m, HM⟩ : ∃ m, Hid ((pl.marginL l).toNat = m) := ⟨_, Lib.hid rfl⟩
        rw [HM.out] at hmm hm2 hmb
        clear hi hbi hq
        go_wp2_with fail
        refine (equalTexts_same (pl.dedR l) (pl.dedR l) rfl vd ve _ D7.out.reads E7.out.reads (by have := pl.dedR_len2 l; omega)).mono ?_
        rintro e w8 ⟨rfl, hb8⟩
        have C8 := Lib.hid (C7.out.below (Nat.le_refl _) hb8)
        have HO8 := Lib.hid (HO7.out.below (Nat.le_refl _) hb8)
        have HB8 := Lib.hid (HB7.out.trans (hb8.mono HB7.out.size))
        clear hb8
        go_wp2_with fail
        refine (iMarginOf_any (pl.ind l n) v5 _ C8.out.reads HLI.out HZI.out).mono ?_
        rintro e w9 ⟨rfl, hb9⟩
        rw [hmm.out]
        have HO9 := Lib.hid (HO8.out.below (Nat.le_refl _) hb9)
        have HB9 := Lib.hid (HB8.out.trans (hb9.mono HB8.out.size))
        clear hb9
        go_wp2_with fail
        refine (iMarginOf_any l v _ HO9.out.reads HLN.out HSZ.out).mono ?_
        rintro e w10 ⟨rfl, hb10⟩
        rw [hm2.out]
        have HB10 := Lib.hid (HB9.out.trans (hb10.mono HB9.out.size))
        clear hb10
        go_wp2_with fail
        go_ret
        exact ⟨rfl, HB10.out⟩
      · have hqi : ¬ (0 : Int) < (q : Int) := by omega
        go_wp2_with fail
        refine (equalTexts_same (pl.dedR l) (pl.dedR l) rfl vd ve _ D7.out.reads E7.out.reads (by have := pl.dedR_len2 l; omega)).mono ?_
        rintro e w8 ⟨rfl, hb8⟩
        have HB8 := Lib.hid (HB7.out.trans (hb8.mono HB7.out.size))
        clear hb8
        go_wp2_with fail
        go_ret
        exact ⟨rfl, HB8.out⟩
    · have hG' : pl.indB l x = false := by simpa using hG
      have HG := Lib.hid hG'
      obtain ⟨D, HD⟩ : ∃ D, Hid (pl.indR l x = D) := ⟨_, Lib.hid rfl⟩
      have hDl : Hid (D.length ≤ 1048576) := Lib.hid (by rw [← HD.out]; exact Nat.le_trans (pl.indR_len2 l x) HLN.out)
      rw [HD.out] at C2
      clear hG hG'
      rw [HG.out]
      go_wp2_with fail
      refine (sIndent_any l x v _ HO2.out.reads HLN.out HSZ.out).mono ?_
      rintro e w3 ⟨v7, rfl, ho7, hb3⟩
      rw [HD.out] at ho7
      rw [HG.out]
      have D3 := Lib.hid ho7
      have C3 := Lib.hid (C2.out.below (Nat.le_refl _) hb3)
      have HB3 := Lib.hid (HB2.out.trans (hb3.mono HB2.out.size))
      clear ho7 hb3
      go_wp2_with fail
      refine (equalTexts_same D D rfl v5 v7 _ C3.out.reads D3.out.reads (by have := hDl.out; omega)).mono ?_
      rintro e w4 ⟨rfl, hb4⟩
      have C4 := Lib.hid (C3.out.below (Nat.le_refl _) hb4)
      have D4 := Lib.hid (D3.out.below (Nat.le_refl _) hb4)
      have HB4 := Lib.hid (HB3.out.trans (hb4.mono HB3.out.size))
      clear hb4
      go_wp2_with fail
      refine (equalTexts_same D D rfl v5 v7 _ C4.out.reads D4.out.reads (by have := hDl.out; omega)).mono ?_
      rintro e w5 ⟨rfl, hb5⟩
      have HB5 := Lib.hid (HB4.out.trans (hb5.mono HB4.out.size))
      clear hb5
      go_wp2_with fail
      go_ret
      exact ⟨rfl, HB5.out⟩
end Go.Proofs.YtkbfceahhginhaaRRRRDoorRRRR
