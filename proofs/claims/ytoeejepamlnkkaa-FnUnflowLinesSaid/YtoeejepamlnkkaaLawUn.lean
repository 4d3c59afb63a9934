/- DrawUnflowLines, and the walk of FnUnflowLines. -/
import Derived.Test.YtoeejepamlnkkaaLawExUn
import Derived.Test.YtoeejepamlnkkaaSomeLines
import Derived.Test.YtoeejepamlnkkaaAllG
import Derived.Test.YtoeejepamlnkkaaLawV
namespace Go.Proofs.Ytoeejepamlnkkaa
open Go.RowKit
set_option maxRecDepth 100000

theorem OPs.at {B : Nat} {w wr : World} {a : Option Addr} {n cap k : Nat} {us : List Value} {ps : pl.Gs} (h : OPs B w (.slice a n cap) us ps) (hn : n = ps.length) (hb : Below w.heap.size w wr) (hk : k < n) :
    ∃ b o, a = some ⟨b, o, none⟩ ∧ wr.cell? ⟨b, o + k, none⟩ = some (nthV us k) ∧ OStrs B wr (nthV us k) (pl.nthP ps k) := by
  have h2 := h.below (Nat.le_refl _) hb
  have hun : us.length = n := by rw [hn]; exact h.2.len
  rcases h2.1.2 with ⟨hv, hz⟩ | ⟨g, cp, cu, hv, _⟩
  · omega
  · simp only [Value.slice.injEq] at hv
    obtain ⟨rfl, _, _⟩ := hv
    have hown := h2.1
    rw [hun] at hown
    refine ⟨g, 0, rfl, ?_, h2.2.each k (by rw [← hn]; exact hk)⟩
    rw [Nat.zero_add, World.ownsRow.cellAt hown k (by omega), nthV_eq (by omega), List.getElem?_eq_getElem (by omega)]

namespace pl
theorem take_flat {ps : Gs} {k : Nat} (h : k < ps.length) : (ps.take k).flatten ++ nthP ps k = (ps.take (k + 1)).flatten := by
  rw [List.take_succ_eq_append_getElem h, List.flatten_append, nthP_eq h]; simp
theorem unflR_words {l : List ByteArray} (h : 0 < (unflR l).length) : wTo l l.length = (unflR l).flatten ∧ (unflR l).length ≤ l.length := by
  by_cases hv : validLs l = true
  · have e : unflR l = unfl [] l := by simp [unflR, hv]
    rw [e, unfl_flat l [] (fun _ => rfl)]
    exact ⟨by unfold wTo; rw [List.take_length]; rfl, unfl_len l []⟩
  · have e : unflR l = [] := by simp [unflR, hv]
    rw [e] at h; simp at h
end pl

set_option maxHeartbeats 1000000 in
theorem dUnflowLines_any (a : Option Addr) (len cap : Nat) (zs : List Int) (w : World) (hr : IsRow .u8 w a len cap zs) :
    Calls Try.prog 28 #[.slice a len cap] w fun e w' => ∃ v l, e = .returned v ∧ OStrs w.heap.size w' v l ∧ l.length ≤ 6 ∧ few 120 l ∧ Below w.heap.size w w' := by
  go_enter Try.func28, Try.ntmps28
  go_wp2_with fail
  refine (newReader_any a len cap zs _ hr).mono ?_
  rintro e w1 ⟨n, c, rfl, hR, hb1⟩
  go_wp2_with fail
  refine (someLines_any _ _ n c 0 a _ hR (by omega)).mono ?_
  rintro e w2 ⟨v, l, rfl, ho, hl, hf, p', _, _, hg⟩
  go_wp2_with fail
  go_ret
  exact ⟨v, l, rfl, ho.mono hb1.size, hl, hf, hb1.grown hg hb1.size (fun k hk => by cases hk; exact Nat.le_refl _)⟩

set_option maxHeartbeats 4000000 in
theorem fnUnflowLines_walk (a : Option Addr) (len cap : Nat) (zs : List Int) (w : World) (hr : IsRow .u8 w a len cap zs) :
    Calls Try.prog 6 #[.slice a len cap] w fun e w' => e = .returned (.bool true) ∧ Below w.heap.size w w' := by
  have hlen := row_len hr
  by_cases hb : 1048576 < len
  · go_enter Try.func6, Try.ntmps6
    go_wp2
    go_ret
    exact ⟨rfl, Below.refl _ _⟩
  · obtain ⟨i0, hi, hz0, hz1, hz2⟩ := info_parts infoS
    go_enter Try.func6, Try.ntmps6
    go_wp2_with fail
    refine (dUnflowLines_any a len cap zs _ hr).mono ?_
    rintro e w1 ⟨v, l, rfl, ho, hl, hf, hb1⟩
    have HLN : Hid (l.length ≤ maxLen) := Lib.hid (by unfold maxLen; omega)
    have HL6 := Lib.hid hl
    have HSZ : Hid (∀ i, i < l.length → (nth l i).size ≤ maxLen) := Lib.hid (fun i hi => by have := hf i hi; unfold maxLen; omega)
    have HFW := Lib.hid hf
    have HO1 := Lib.hid ho
    have HB1 := Lib.hid hb1
    have hbd := pl.unflR_bd l
    have hfw := Lib.hid (pl.unflR_words (l := l))
    obtain ⟨D, HD⟩ : ∃ D, Hid (pl.unflR l = D) := ⟨_, Lib.hid rfl⟩
    rw [HD.out] at hbd hfw
    have HBD := Lib.hid hbd
    clear ho hb1 hf hl hbd
    go_wp2_with fail
    refine (iUnflow_any l v _ HO1.out.reads HLN.out HSZ.out).mono ?_
    rintro e w2 ⟨v4, rfl, ho4, hb2⟩
    rw [HD.out] at ho4
    have C2 := Lib.hid ho4
    have HO2 := Lib.hid (HO1.out.below (Nat.le_refl _) hb2)
    have HB2 := Lib.hid (HB1.out.trans (hb2.mono HB1.out.size))
    clear ho4 hb2
    obtain ⟨a4, c4, hv4⟩ := C2.out.reads.slice
    obtain ⟨n, HN⟩ : ∃ n, Hid (D.length = n) := ⟨_, Lib.hid rfl⟩
    rw [HN.out] at hv4
    subst hv4
    have hn20 : n ≤ 20 := by rw [← HN.out]; exact HBD.out.1
    go_wp2_with fail
    refine (sUnflow_any l v _ HO2.out.reads HLN.out HSZ.out).mono ?_
    rintro e w3 ⟨v5, rfl, ho5, hb3⟩
    rw [HD.out] at ho5
    have D3 := Lib.hid ho5
    have C3 := Lib.hid (C2.out.below (Nat.le_refl _) hb3)
    have HO3 := Lib.hid (HO2.out.below (Nat.le_refl _) hb3)
    have HB3 := Lib.hid (HB2.out.trans (hb3.mono HB2.out.size))
    clear ho5 hb3
    go_wp2_with fail
    refine (equalRows_same D _ v5 _ C3.out.reads D3.out.reads (by rw [HN.out]; omega) (fun k hk => by have := HBD.out.2.2 k hk; omega)).mono ?_
    rintro e w4 ⟨rfl, hb4⟩
    have C4 := Lib.hid (C3.out.below (Nat.le_refl _) hb4)
    have HO4 := Lib.hid (HO3.out.below (Nat.le_refl _) hb4)
    have HB4 := Lib.hid (HB3.out.trans (hb4.mono HB3.out.size))
    clear hb4
    by_cases hn0 : n = 0
    · have hne : ((n : Int) == 0) = true := by rw [hn0]; rfl
      clear hn0
      go_wp2_with fail
      refine (sUnflow_any l v _ HO4.out.reads HLN.out HSZ.out).mono ?_
      rintro e w5 ⟨v6, rfl, ho6, hb5⟩
      rw [HD.out] at ho6
      have D5 := Lib.hid ho6
      have C5 := Lib.hid (C4.out.below (Nat.le_refl _) hb5)
      have HB5 := Lib.hid (HB4.out.trans (hb5.mono HB4.out.size))
      clear ho6 hb5
      go_wp2_with fail
      refine (equalRows_same D _ v6 _ C5.out.reads D5.out.reads (by rw [HN.out]; omega) (fun k hk => by have := HBD.out.2.2 k hk; omega)).mono ?_
      rintro e w6 ⟨rfl, hb6⟩
      have HB6 := Lib.hid (HB5.out.trans (hb6.mono HB5.out.size))
      clear hb6
      go_wp2_with fail
      go_ret
      exact ⟨rfl, HB6.out⟩
    · have hne : ((n : Int) == 0) = false := beq_eq_false_iff_ne.2 (by omega)
      obtain ⟨hwords, hle⟩ := hfw.out (by rw [HN.out]; omega)
      have HW := Lib.hid hwords
      have hnl : n ≤ l.length := by rw [← HN.out]; exact hle
      obtain ⟨us, hus⟩ := C4.out
      have CU := Lib.hid hus
      clear hn0 hwords hle hus
      go_wp2_with fail
      go_loopw [5, 6] (fun ov iv wr => ∃ k : Nat, k ≤ n ∧ iv = .int .i64 k ∧ OStrs w4.heap.size wr ov (D.take k).flatten ∧ Below w4.heap.size w4 wr) (fun _ iv _ => n - (intOf iv).toNat)
      case atStart => exact ⟨0, Nat.zero_le _, rfl, World.ownsRow_made _ _ _ (Nat.le_refl _) (by unfold maxLen; omega) rfl, (Below.refl _ _).alloc (Nat.le_refl _) _⟩
      case round =>
        obtain ⟨k, hk, rfl, hown, hbel⟩ := hrel
        by_cases hlt : k < n
        · have hkl : Hid (k < D.length) := Lib.hid (by rw [HN.out]; exact hlt)
          obtain ⟨b1, o1, rfl, hx, hrow⟩ := CU.out.at HN.out.symm hbel hlt
          have hst := Lib.hid (pl.take_flat hkl.out)
          have hrl := HBD.out.2.2 k hkl.out
          have htl : (D.take k).flatten.length ≤ 2400 := by
            have h1 := pl.totTo_flat D k (by have := hkl.out; omega)
            have h2 := pl.totTo_le (ps := D) (k := k) (m := D.length) (by have := hkl.out; omega)
            have := HBD.out.2.1
            omega
          have HO := Lib.hid hown
          have HB := Lib.hid hbel
          have hsz2 := hbel.size
          obtain ⟨W, HWW⟩ : ∃ W, Hid (pl.nthP D k = W) := ⟨_, Lib.hid rfl⟩
          obtain ⟨T, HT⟩ : ∃ T, Hid ((D.take k).flatten = T) := ⟨_, Lib.hid rfl⟩
          rw [HWW.out] at hrow hrl hst
          rw [HT.out] at HO htl hst
          obtain ⟨u, HU⟩ : ∃ u, Hid (nthV us k = u) := ⟨_, Lib.hid rfl⟩
          rw [HU.out] at hx hrow
          clear hown hbel
          have hrow2 := hrow
          rcases hrow2.2 with ⟨rfl, hn0⟩ | ⟨g, cp, cu, rfl, hgB, hg, hle, hm, hs, htake⟩
          · have hW0 : Hid (W = []) := Lib.hid (List.length_eq_zero_iff.1 hn0)
            have hst2 : Hid (T = (D.take (k + 1)).flatten) := Lib.hid (by rw [← hst.out, hW0.out, List.append_nil])
            clear hrow hrow2 hn0
            go_wp2_with (at_builtin; refine wpList_append_own_none rfl _ _ 23 rfl w4.heap.size 9 i0 1 Try.underlying23 hi _ _ _ rfl HO.out rfl ?_)
            go_roundw
            case rel => exact ⟨k + 1, by omega, by go_num, by rw [← hst2.out]; exact HO.out, HB.out⟩
            case measure => simp [intOf]; omega
          · have HC : Hid (∀ j u, (W.map Value.string)[j]? = some u → wr.cell? ((⟨g, 0, none⟩ : Addr).add j) = some u) := Lib.hid (fun j u hu => by
              have hadd : (⟨g, 0, none⟩ : Addr).add j = ⟨g, j, none⟩ := by unfold Addr.add; split <;> simp_all
              have hj : j < W.length := by
                have := (List.getElem?_eq_some_iff.1 hu).1
                simpa using this
              rw [hadd, World.ownsRow.cellAt hrow j (by omega)]
              exact hu)
            clear hrow hrow2 hg hs htake
            go_wp2_with (at_builtin; refine wpList_append_own _ rfl _ _ 23 rfl w4.heap.size 9 i0 (.string ByteArray.empty) 1 16 Try.underlying23 hi hz0 hz1 hz2 rfl (by decide) _ _ _ rfl HO.out ⟨g, 0, none⟩ W.length cp (W.map Value.string) rfl (by simp) HC.out ?ca2 ?ca3 ?ca4 ?ca5 ?_)
            case ca2 => intro u hu; rw [List.mem_map] at hu; obtain ⟨s, _, rfl⟩ := hu; rfl
            case ca3 => unfold maxLen; omega
            case ca4 => omega
            case ca5 => exact hsz2
            intro v' w5 hown' hgrow _
            have hb5 : Below w4.heap.size w4 w5 := HB.out.grown hgrow hsz2 (fun k hk => (World.ownsRow.lt HO.out k hk).1)
            have hown1 := OStrs.catP hown'
            rw [hst.out] at hown1
            clear hown' hgrow
            go_wp2
            go_roundw
            case rel => exact ⟨k + 1, by omega, by go_num, hown1, hb5⟩
            case measure => simp [intOf]; omega
        · obtain rfl : k = n := by omega
          have hall : Hid ((D.take k).flatten = D.flatten) := Lib.hid (by rw [← HN.out, List.take_length])
          rw [hall.out] at hown
          have HOA := Lib.hid hown
          have HO5 := Lib.hid (HO4.out.below (Nat.le_refl _) hbel)
          have HB5 := Lib.hid (HB4.out.trans (hbel.mono HB4.out.size))
          have hfl : Hid (D.flatten.length ≤ 2400) := Lib.hid (by
            have h1 := pl.totTo_flat D D.length (Nat.le_refl _)
            rw [List.take_length] at h1
            have := HBD.out.2.1
            omega)
          clear hown hbel
          obtain ⟨vl, cl, hvl⟩ := HO5.out.reads.slice
          obtain ⟨L, HLL⟩ : ∃ L, Hid (l.length = L) := ⟨_, Lib.hid rfl⟩
          rw [HLL.out] at hvl hnl
          subst hvl
          go_wp2_with fail
          refine (allWordsG_any l _ _ HO5.out.reads (by have := HL6.out; omega) (fun i hi => Nat.le_trans (HFW.out i hi) (by omega))).mono ?_
          rintro e w6 ⟨v6, rfl, ho6, hb6⟩
          rw [HW.out] at ho6
          have E6 := Lib.hid ho6
          have HOA6 := Lib.hid (HOA.out.below (Nat.le_refl _) hb6)
          have HB6 := Lib.hid (HB5.out.trans (hb6.mono HB5.out.size))
          clear ho6 hb6
          go_wp2_with fail
          refine (equalTexts_self D.flatten _ _ _ HOA6.out.reads E6.out.reads (by have := hfl.out; omega)).mono ?_
          rintro e w7 ⟨rfl, hb7⟩
          have HB7 := Lib.hid (HB6.out.trans (hb7.mono HB6.out.size))
          clear hb7
          go_wp2_with fail
          go_ret
          exact ⟨rfl, HB7.out⟩
end Go.Proofs.Ytoeejepamlnkkaa
