/- Contract: the program's FillWords. -/
import Derived.Test.YtoeejepamlnkkaaPlainFx
import Derived.Test.YtoeejepamlnkkaaShort
import Derived.Test.YtoeejepamlnkkaaChangeO
import Derived.Test.YtoeejepamlnkkaaWrapS
import Derived.Laws.AppendOwnNone
namespace Go.Proofs.Ytoeejepamlnkkaa
open Go.RowKit
set_option maxRecDepth 100000

theorem isIndentF_any (n : Int) (w : World) :
    Calls Try.prog 45 #[.int .i64 n] w fun e w' => e = .returned (.bool (pl.inR n 0 10)) ∧ w = w' := by
  by_cases h1 : 0 ≤ n
  · go_enter Try.func45, Try.ntmps45
    go_wp2
    go_ret
    exact ⟨by simp [pl.inR, h1], rfl⟩
  · have h1' : n < 0 := by omega
    go_enter Try.func45, Try.ntmps45
    go_wp2
    go_ret
    exact ⟨ret_b (pl.inR_false (.inl h1')).symm, rfl⟩

namespace pl
theorem wrapR_sz {D : List ByteArray} {wd : Int} (hf : fitA D wd = true) (h : wd ≤ 1048576) : ∀ i, i < (wrapR D wd).length → (nth (wrapR D wd) i).size ≤ 1048576 := by
  rw [wrapR_yes hf]
  intro i hi
  rw [nth_eq hi]
  have hm := List.getElem_mem hi
  generalize (wrapB wd D)[i] = y at hm ⊢
  unfold wrapB at hm
  obtain ⟨g, hg, rfl⟩ := List.mem_map.1 hm
  have hfit := greedy_fits (wd := wd) (l := D) (fitA_parts hf).1 D.length (Nat.le_refl _) g hg
  rw [jline_size]; omega
end pl
theorem lit1_lt (w : World) (o : Obj) : w.heap.size < (w.alloc o).heap.size := by simp
theorem lit1_0 (w : World) (a : Value) (t : TypeId) : (w.alloc (.cells #[a] t)).cell? ⟨w.heap.size, 0, none⟩ = some a := by simp
theorem OStrs.lit1 {B : Nat} (w : World) (T : ByteArray) (hB : B ≤ w.heap.size) : OStrs B (w.alloc (.cells #[.string T] 9)) (.slice (some ⟨w.heap.size, 0, none⟩) 1 1) [T] :=
  ⟨rfl, .inr ⟨w.heap.size, 1, #[.string T], rfl, hB, heap_alloc_new w _, Nat.le_refl _, (by unfold maxLen; omega), rfl, rfl⟩⟩
theorem LStrs.suf {w : World} {b o L cap n : Nat} {l : List ByteArray} (h : LStrs w (.slice (some ⟨b, o, none⟩) L cap) l) (hL : L = l.length) (hn : n < L) : LStrs w (.slice (some ⟨b, o + n, none⟩) (L - n) (cap - n)) (l.drop n) := by
  obtain ⟨hr, a2, c2, hv, hle⟩ := h
  simp only [Value.slice.injEq] at hv
  obtain ⟨_, _, rfl⟩ := hv
  have hdl : (l.drop n).length = L - n := by rw [List.length_drop, ← hL]
  refine ⟨?_, some ⟨b, o + n, none⟩, cap - n, by rw [hdl], by rw [hdl]; omega⟩
  rcases hr with ⟨hz, _⟩ | ⟨hpos, b1, o1, c1, hvv, hb1, hc1⟩
  · rw [hz] at hL; simp at hL; omega
  · simp only [Value.slice.injEq] at hvv
    obtain ⟨hbo, _, _⟩ := hvv
    simp only [Option.some.injEq, Addr.mk.injEq, and_true] at hbo
    obtain ⟨rfl, rfl⟩ := hbo
    refine .inr ⟨by omega, b, o + n, cap - n, by rw [hdl], hb1, fun i hi => ?_⟩
    rw [hdl] at hi
    rw [Nat.add_assoc, hc1 (n + i) (by omega), nth_eq (by omega), nth_eq (by rw [hdl]; exact hi), List.getElem_drop]

/-- the conditions are checked in order: where one fails, there is nothing -/
theorem iFill_checks (l : List ByteArray) (wd a b : Int) (v : Value) (w : World) (hl : RStrs w v l) (hlen : l.length ≤ maxLen) (hsz : ∀ i, i < l.length → (nth l i).size ≤ maxLen)
    (h : pl.vWords l = false ∨ (pl.vWords l = true ∧ pl.inR wd 1 120 = false) ∨ (pl.vWords l = true ∧ pl.inR wd 1 120 = true ∧ pl.inR a 0 10 = false) ∨ (pl.vWords l = true ∧ pl.inR wd 1 120 = true ∧ pl.inR a 0 10 = true ∧ pl.inR b 0 10 = false)) :
    Calls Try.prog 12 #[v, .int .i64 wd, .int .i64 a, .int .i64 b] w fun e w' => e = .returned (.tuple #[.slice none 0 0, .bool false]) ∧ Below w.heap.size w w' := by
  rcases h with h1 | ⟨h1, h2⟩ | ⟨h1, h2, h3⟩ | ⟨h1, h2, h3, h4⟩
  · go_enter Try.func12, Try.ntmps12
    go_wp2_with fail
    refine (iValidWords_any l _ _ hl hlen hsz).mono ?_
    rintro e w1 ⟨rfl, hb1⟩
    rw [h1]
    go_wp2_with fail
    go_ret2
    exact ⟨rfl, hb1⟩
  · go_enter Try.func12, Try.ntmps12
    go_wp2_with fail
    refine (iValidWords_any l _ _ hl hlen hsz).mono ?_
    rintro e w1 ⟨rfl, hb1⟩
    rw [h1]
    go_wp2_with fail
    refine (isWidth_any _ _).mono ?_
    rintro e w' ⟨rfl, rfl⟩
    rw [h2]
    go_wp2_with fail
    go_ret2
    exact ⟨rfl, hb1⟩
  · go_enter Try.func12, Try.ntmps12
    go_wp2_with fail
    refine (iValidWords_any l _ _ hl hlen hsz).mono ?_
    rintro e w1 ⟨rfl, hb1⟩
    rw [h1]
    go_wp2_with fail
    refine (isWidth_any _ _).mono ?_
    rintro e w' ⟨rfl, rfl⟩
    rw [h2]
    go_wp2_with fail
    refine (isIndentF_any _ _).mono ?_
    rintro e w' ⟨rfl, rfl⟩
    rw [h3]
    go_wp2_with fail
    go_ret2
    exact ⟨rfl, hb1⟩
  · go_enter Try.func12, Try.ntmps12
    go_wp2_with fail
    refine (iValidWords_any l _ _ hl hlen hsz).mono ?_
    rintro e w1 ⟨rfl, hb1⟩
    rw [h1]
    go_wp2_with fail
    refine (isWidth_any _ _).mono ?_
    rintro e w' ⟨rfl, rfl⟩
    rw [h2]
    go_wp2_with fail
    refine (isIndentF_any _ _).mono ?_
    rintro e w' ⟨rfl, rfl⟩
    rw [h3]
    go_wp2_with fail
    refine (isIndentF_any _ _).mono ?_
    rintro e w' ⟨rfl, rfl⟩
    rw [h4]
    go_wp2_with fail
    go_ret2
    exact ⟨rfl, hb1⟩

set_option maxHeartbeats 4000000 in
theorem iFill_ok (l : List ByteArray) (wd : Int) (a b : Nat) (v : Value) (w : World) (hl : LStrs w v l) (hv : pl.vWords l = true) (hin : pl.inR wd 1 120 = true) (ha : a ≤ 10) (hb : b ≤ 10) :
    Calls Try.prog 12 #[v, .int .i64 wd, .int .i64 a, .int .i64 b] w fun e w' => ∃ v', e = .returned (.tuple #[v', .bool (pl.fillOK l wd a b)]) ∧ OStrs w.heap.size w' v' (pl.fillR l wd a b) ∧ Below w.heap.size w w' := by
  obtain ⟨i0, hi, hz0, hz1, hz2⟩ := info_parts infoS
  have h9 := (pl.vWords_parts hv).1
  have hlen : Hid (l.length ≤ maxLen) := Lib.hid (by unfold maxLen; omega)
  have h12 : Hid (∀ x ∈ l, x.size ≤ 12) := Lib.hid (pl.words_12 hv)
  have hge : Hid (∀ x ∈ l, 1 ≤ x.size) := Lib.hid (pl.words_ge hv)
  have hsz : Hid (∀ i, i < l.length → (nth l i).size ≤ 12) := Lib.hid (fun i hi => by rw [nth_eq hi]; exact h12.out _ (List.getElem_mem hi))
  have hia := Lib.hid (pl.inR_true (n := (a : Int)) (lo := 0) (hi := 10) (by omega) (by omega))
  have hib := Lib.hid (pl.inR_true (n := (b : Int)) (lo := 0) (hi := 10) (by omega) (by omega))
  obtain ⟨hw1, hw2⟩ := pl.inR_parts hin
  have HV := Lib.hid hv
  have HI := Lib.hid hin
  have FN : Hid (pl.fillS wd b (l.length + 1) a l = none → pl.fillOK l wd a b = false ∧ pl.fillR l wd a b = []) := Lib.hid (fun h => by
    have h1 := pl.fillOK_no (l := l) (wd := wd) (a := (a : Int)) (b := (b : Int)) (.inr (.inr (.inr (.inr h))))
    exact ⟨h1, pl.fillR_no h1⟩)
  have FS : Hid (∀ o, pl.fillS wd b (l.length + 1) a l = some o → pl.fillOK l wd a b = true ∧ pl.fillR l wd a b = o) := Lib.hid (fun o h => pl.fillOK_yes HV.out HI.out hia.out hib.out h)
  have HL := Lib.hid hl
  obtain ⟨hr, a0, cap0, rfl, hcap⟩ := hl
  have HR := Lib.hid hr
  obtain ⟨L, hL⟩ : ∃ L, L = l.length := ⟨_, rfl⟩
  rw [← hL] at h9 hcap HR HL ⊢
  have HLn := Lib.hid hL
  clear hL hr hv hin
  go_enter Try.func12, Try.ntmps12
  go_wp2_with fail
  refine (iValidWords_any l _ _ HR.out hlen.out (fun i hi => Nat.le_trans (hsz.out i hi) (by unfold maxLen; omega))).mono ?_
  rintro e w1 ⟨rfl, hb1⟩
  rw [HV.out]
  have HB1 := Lib.hid hb1
  clear hb1
  go_wp2_with fail
  refine (isWidth_any _ _).mono ?_
  rintro e w' ⟨rfl, rfl⟩
  rw [HI.out]
  go_wp2_with fail
  refine (isIndentF_any _ _).mono ?_
  rintro e w' ⟨rfl, rfl⟩
  rw [hia.out]
  go_wp2_with fail
  refine (isIndentF_any _ _).mono ?_
  rintro e w' ⟨rfl, rfl⟩
  rw [hib.out]
  by_cases hL0 : L = 0
  · have hl0 : Hid (l = []) := Lib.hid (List.length_eq_zero_iff.1 (by rw [← HLn.out]; exact hL0))
    have hres := Lib.hid (FS.out [] (by rw [hl0.out]; exact pl.fillS_nil _ _ _ _))
    have hLe : ((L : Int) == 0) = true := by rw [hL0]; rfl
    clear hL0
    go_wp2_with fail
    go_ret2
    exact ⟨_, by rw [hres.out.1]; rfl, by rw [hres.out.2]; exact OStrs.nil _ _, HB1.out⟩
  · have hLe : ((L : Int) == 0) = false := beq_eq_false_iff_ne.2 (by omega)
    have hlne : Hid (l ≠ []) := Lib.hid (fun e => by have := HLn.out; rw [e] at this; simp at this; omega)
    have HR1 := Lib.hid (HR.out.below (Nat.le_refl _) HB1.out)
    have hnle := pl.cfit_le (wd - a) l
    obtain ⟨n, HN⟩ : ∃ n, Hid (pl.cfit (wd - a) l = n) := ⟨_, Lib.hid rfl⟩
    rw [HN.out, ← HLn.out] at hnle
    go_wp2_with fail
    refine (countFit_any l (wd - a) _ _ HR1.out (by rw [← HLn.out]; omega) (fun i hi => Nat.le_trans (hsz.out i hi) (by omega))).mono ?_
    rintro e w2 ⟨rfl, hb2⟩
    rw [HN.out]
    have HB2 := Lib.hid (HB1.out.trans (hb2.mono HB1.out.size))
    clear hb2
    by_cases hn0 : n = 0
    · have hres := Lib.hid (FN.out (pl.fill_none0 hlne.out (HN.out.trans hn0)))
      have hne : ((n : Int) == 0) = true := by rw [hn0]; rfl
      clear hn0
      go_wp2_with fail
      go_ret2
      exact ⟨_, by rw [hres.out.1]; rfl, by rw [hres.out.2]; exact OStrs.nil _ _, HB2.out⟩
    · have hne : ((n : Int) == 0) = false := beq_eq_false_iff_ne.2 (by omega)
      have HL2 := Lib.hid (HL.out.below (Nat.le_refl _) HB2.out)
      obtain ⟨b0, o0, hbo⟩ : ∃ b0 o0, a0 = some ⟨b0, o0, none⟩ := by
        rcases HR.out with ⟨hz, _⟩ | ⟨_, b0, o0, c0, hvv, _⟩
        · exact absurd hz hlne.out
        · simp only [Value.slice.injEq] at hvv
          exact ⟨b0, o0, hvv.1⟩
      subst hbo
      obtain ⟨J, HJ⟩ : ∃ J, Hid (pl.joinB (l.take n) pl.sp1 = J) := ⟨_, Lib.hid rfl⟩
      have hJ2 : Hid (pl.jline (l.take n) = J) := Lib.hid (by rw [← HJ.out]; rfl)
      have hJz : J.size ≤ 1048576 := by
        have h1 := pl.szJ_bd hsz.out n (by rw [← HLn.out]; exact hnle)
        have h2 : J.size = pl.szJ (l.take n) := by rw [← HJ.out]; rfl
        omega
      have hJ1 : Hid (1 ≤ J.size) := Lib.hid (by
        have h2 : J.size = pl.szJ (l.take n) := by rw [← HJ.out]; rfl
        rw [h2]
        refine pl.szJ_pos (fun e => ?_) (fun x hx => hge.out x (List.mem_of_mem_take hx))
        have := congrArg List.length e
        rw [List.length_take, ← HLn.out, List.length_nil] at this; omega)
      go_wp2_with fail
      refine (joinPre b0 o0 cap0 L n l pl.sp1 _ HL2.out.1 HLn.out hcap hnle (by rw [← HLn.out]; omega) (by rw [HJ.out]; omega)).mono ?_
      rintro e w3 ⟨rfl, hb3⟩
      rw [HJ.out]
      have HB3 := Lib.hid (HB2.out.trans (hb3.mono HB2.out.size))
      clear hb3
      go_wp2_with fail
      refine (putOn_any a J _ hJz (by omega)).mono ?_
      rintro e w4 ⟨rfl, hb4⟩
      have hpt : Hid (pl.ptS a J = pl.spB a ++ J) := Lib.hid (pl.ptS_full hJ1.out)
      obtain ⟨T, HT⟩ : ∃ T, Hid (pl.ptS a J = T) := ⟨_, Lib.hid rfl⟩
      rw [HT.out]
      have HB4 := Lib.hid (HB3.out.trans (hb4.mono HB3.out.size))
      clear hb4
      have hT2 : Hid (pl.spB a ++ pl.jline (l.take n) = T) := Lib.hid (by rw [hJ2.out, ← HT.out, hpt.out])
      by_cases hnL : n = L
      · have hres := Lib.hid (FS.out _ (pl.fill_all hlne.out (by rw [HN.out, hnL, HLn.out])))
        have hT3 : Hid (pl.spB a ++ pl.jline l = T) := Lib.hid (by rw [← hT2.out, hnL, HLn.out, List.take_length])
        have hnLe : ((n : Int) == (L : Int)) = true := by rw [hnL]; simp
        clear hnL
        have hO : OStrs w.heap.size (w4.alloc (.cells #[.string T] 9)) (.slice (some ⟨w4.heap.size, 0, none⟩) 1 1) [T] := OStrs.lit1 w4 T HB4.out.size
        go_wp2_with fail
        go_ret2
        exact ⟨_, by rw [hres.out.1]; rfl, by rw [hres.out.2, hT3.out]; exact hO, HB4.out.alloc HB4.out.size _⟩
      · have hnLe : ((n : Int) == (L : Int)) = false := beq_eq_false_iff_ne.2 (by omega)
        have hnlt : n < L := by omega
        have HFR : Hid (pl.fillS wd b (l.length + 1) a l = if pl.fitA (l.drop n) (wd - b) = true then some (T :: (pl.wrapR (l.drop n) (wd - b)).map (pl.ptS b)) else none) := Lib.hid (by
          have h1 := pl.fill_rest (l := l) (wd := wd) (a := a) (b := b) HV.out hw2 (by rw [HN.out]; exact hn0) (by rw [HN.out, ← HLn.out]; exact hnlt)
          rw [HN.out, hT2.out] at h1
          exact h1)
        have hO : OStrs w.heap.size (w4.alloc (.cells #[.string T] 9)) (.slice (some ⟨w4.heap.size, 0, none⟩) 1 1) [T] := OStrs.lit1 w4 T HB4.out.size
        obtain ⟨w5, HW5⟩ : ∃ u, Hid (w4.alloc (.cells #[.string T] 9) = u) := ⟨_, Lib.hid rfl⟩
        obtain ⟨G4, HG4⟩ : ∃ G, Hid (w4.heap.size = G) := ⟨_, Lib.hid rfl⟩
        have HB5 : Hid (Below w.heap.size w w5) := Lib.hid (by rw [← HW5.out]; exact HB4.out.alloc HB4.out.size _)
        rw [HW5.out, HG4.out] at hO
        have HO5 := Lib.hid hO
        clear hO hnL
        have HLd := Lib.hid ((HL.out.below (Nat.le_refl _) HB5.out).suf HLn.out hnlt)
        have hdl : Hid ((l.drop n).length ≤ 9) := Lib.hid (by rw [List.length_drop, ← HLn.out]; omega)
        have hds : Hid (∀ i, i < (l.drop n).length → (nth (l.drop n) i).size ≤ 12) := Lib.hid (fun i hi => by
          rw [nth_eq hi]
          exact h12.out _ (List.mem_of_mem_drop (List.getElem_mem hi)))
        obtain ⟨D, HD⟩ : ∃ D, Hid (l.drop n = D) := ⟨_, Lib.hid rfl⟩
        rw [HD.out] at HLd hdl hds HFR
        go_wp2_with fail
        rw [HW5.out, HG4.out]
        refine (iWrapWords_any D (wd - b) _ _ HLd.out (by unfold maxLen; have := hdl.out; omega) (fun i hi => Nat.le_trans (hds.out i hi) (by unfold maxLen; omega))).mono ?_
        rintro e w6 ⟨v6, rfl, ho6, hb6⟩
        have HO6 := Lib.hid ho6
        have HP6 := Lib.hid (HO5.out.below (Nat.le_refl _) hb6)
        have HB6 := Lib.hid (HB5.out.trans (hb6.mono HB5.out.size))
        clear hb6 ho6
        by_cases hf : pl.fitA D (wd - b) = true
        · have hres := Lib.hid (FS.out _ (HFR.out.trans (if_pos hf)))
          have hRl : Hid ((pl.wrapR D (wd - b)).length ≤ 9) := Lib.hid (Nat.le_trans (pl.wrapR_len D _) hdl.out)
          have hRs : Hid (∀ i, i < (pl.wrapR D (wd - b)).length → (nth (pl.wrapR D (wd - b)) i).size ≤ 1048576) := Lib.hid (pl.wrapR_sz hf (by omega))
          rw [hf]
          obtain ⟨R, HRR⟩ : ∃ R, Hid (pl.wrapR D (wd - b) = R) := ⟨_, Lib.hid rfl⟩
          rw [HRR.out] at HO6 hres hRl hRs
          clear hf HFR
          go_wp2_with fail
          have hA : Below w6.heap.size w6 (w6.alloc (.cells #[.func (.func 47) #[.int .i64 b] #[]] 38)) := (Below.refl _ _).alloc (Nat.le_refl _) _
          refine (changeO_any R v6 b w6.heap.size _ (HO6.out.reads.below (Nat.le_refl _) hA) (by have := hRl.out; omega) hRs.out (by omega) (lit1_lt _ _) (lit1_0 _ _ _)).mono ?_
          rintro e w7 ⟨v7, rfl, ho7, hb7⟩
          have hb67 : Below w6.heap.size w6 w7 := hA.trans (hb7.mono hA.size)
          have HB7 := Lib.hid (HB6.out.trans (hb67.mono HB6.out.size))
          have hP7 := HP6.out.below (Nat.le_refl _) hb67
          have HQ7 := Lib.hid ho7
          clear hb7 hb67 hA
          have ho7b := ho7
          have hml : (R.map (pl.ptS b)).length ≤ 9 := by rw [List.length_map]; exact hRl.out
          obtain ⟨M, HM⟩ : ∃ M, Hid (R.map (pl.ptS b) = M) := ⟨_, Lib.hid rfl⟩
          rw [HM.out] at ho7 ho7b hres hml HQ7
          have hsz7 := HB7.out.size
          rcases ho7b.2 with ⟨rfl, hm0⟩ | ⟨g, cap, cur, rfl, hB, hg, hle, hm, hs, htake⟩
          · have hM0 : Hid (M = []) := Lib.hid (List.length_eq_zero_iff.1 hm0)
            clear ho7 ho7b hm0
            go_wp2_with (at_builtin; refine wpList_append_own_none rfl _ _ 23 rfl w.heap.size 9 i0 1 Try.underlying23 hi _ _ _ rfl hP7 rfl ?_)
            go_wp2
            go_ret2
            exact ⟨_, by rw [hres.out.1]; rfl, by rw [hres.out.2, hM0.out]; exact hP7, HB7.out⟩
          · have HC : Hid (∀ j u, (M.map Value.string)[j]? = some u → w7.cell? ((⟨g, 0, none⟩ : Addr).add j) = some u) := Lib.hid (fun j u hu => by
              have hadd : (⟨g, 0, none⟩ : Addr).add j = ⟨g, j, none⟩ := by unfold Addr.add; split <;> simp_all
              have hj : j < M.length := by
                have := (List.getElem?_eq_some_iff.1 hu).1
                simpa using this
              rw [hadd, World.ownsRow.cellAt ho7 j (by omega)]
              exact hu)
            clear ho7 ho7b hg hs htake
            go_wp2_with (at_builtin; refine wpList_append_own _ rfl _ _ 23 rfl w.heap.size 9 i0 (.string ByteArray.empty) 1 16 Try.underlying23 hi hz0 hz1 hz2 rfl (by decide) _ _ _ rfl hP7 ⟨g, 0, none⟩ M.length cap (M.map Value.string) rfl (by simp) HC.out ?cA2 ?cA3 ?cA4 ?cA5 ?_)
            case cA2 => intro u hu; rw [List.mem_map] at hu; obtain ⟨s, _, rfl⟩ := hu; rfl
            case cA3 => unfold maxLen; simp; omega
            case cA4 => simp; omega
            case cA5 => omega
            intro v' w8 hown' hgrow _
            have hb8 : Below w.heap.size w w8 := HB7.out.grown hgrow hsz7 (fun k hk => (World.ownsRow.lt hP7 k hk).1)
            have hown1 : OStrs w.heap.size w8 v' ([T] ++ M) := by unfold OStrs; simpa [Nat.add_comm] using hown'
            clear hown' hgrow
            go_wp2
            go_ret2
            exact ⟨_, by rw [hres.out.1]; rfl, by rw [hres.out.2]; exact hown1, hb8⟩
        · have hf' : pl.fitA D (wd - b) = false := by simpa using hf
          have hres := Lib.hid (FN.out (HFR.out.trans (if_neg hf)))
          rw [hf']
          clear hf hf' HFR
          go_wp2_with fail
          go_ret2
          exact ⟨_, by rw [hres.out.1]; rfl, by rw [hres.out.2]; exact OStrs.nil _ _, HB6.out⟩

theorem iFill_any (l : List ByteArray) (wd a b : Int) (v : Value) (w : World) (hl : LStrs w v l) (hlen : l.length ≤ maxLen) (hsz : ∀ i, i < l.length → (nth l i).size ≤ maxLen) :
    Calls Try.prog 12 #[v, .int .i64 wd, .int .i64 a, .int .i64 b] w fun e w' => ∃ v', e = .returned (.tuple #[v', .bool (pl.fillOK l wd a b)]) ∧ OStrs w.heap.size w' v' (pl.fillR l wd a b) ∧ Below w.heap.size w w' := by
  have key : ∀ (_ : pl.fillOK l wd a b = false) (_ : Calls Try.prog 12 #[v, .int .i64 wd, .int .i64 a, .int .i64 b] w fun e w' => e = .returned (.tuple #[.slice none 0 0, .bool false]) ∧ Below w.heap.size w w'),
      Calls Try.prog 12 #[v, .int .i64 wd, .int .i64 a, .int .i64 b] w fun e w' => ∃ v', e = .returned (.tuple #[v', .bool (pl.fillOK l wd a b)]) ∧ OStrs w.heap.size w' v' (pl.fillR l wd a b) ∧ Below w.heap.size w w' := by
    intro h1 h2
    refine h2.mono ?_
    rintro e w' ⟨rfl, hb⟩
    exact ⟨_, by rw [h1], by rw [pl.fillR_no h1]; exact OStrs.nil _ _, hb⟩
  by_cases h1 : pl.vWords l = true
  · by_cases h2 : pl.inR wd 1 120 = true
    · by_cases h3 : pl.inR a 0 10 = true
      · by_cases h4 : pl.inR b 0 10 = true
        · obtain ⟨h3a, h3b⟩ := pl.inR_parts h3
          obtain ⟨h4a, h4b⟩ := pl.inR_parts h4
          obtain ⟨a, rfl⟩ := Int.eq_ofNat_of_zero_le h3a
          obtain ⟨b, rfl⟩ := Int.eq_ofNat_of_zero_le h4a
          exact iFill_ok l wd a b v w hl h1 h2 (by omega) (by omega)
        · have h4' : pl.inR b 0 10 = false := by simpa using h4
          exact key (pl.fillOK_no (.inr (.inr (.inr (.inl h4'))))) (iFill_checks l wd a b v w hl.1 hlen hsz (.inr (.inr (.inr ⟨h1, h2, h3, h4'⟩))))
      · have h3' : pl.inR a 0 10 = false := by simpa using h3
        exact key (pl.fillOK_no (.inr (.inr (.inl h3')))) (iFill_checks l wd a b v w hl.1 hlen hsz (.inr (.inr (.inl ⟨h1, h2, h3'⟩))))
    · have h2' : pl.inR wd 1 120 = false := by simpa using h2
      exact key (pl.fillOK_no (.inr (.inl h2'))) (iFill_checks l wd a b v w hl.1 hlen hsz (.inr (.inl ⟨h1, h2'⟩)))
  · have h1' : pl.vWords l = false := by simpa using h1
    exact key (pl.fillOK_no (.inl h1')) (iFill_checks l wd a b v w hl.1 hlen hsz (.inl h1'))
end Go.Proofs.Ytoeejepamlnkkaa
