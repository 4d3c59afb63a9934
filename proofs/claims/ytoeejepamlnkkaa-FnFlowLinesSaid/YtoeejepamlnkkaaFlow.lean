/- Contract: the program's FlowLines. -/
import Derived.Test.YtoeejepamlnkkaaUnfl
import Derived.Test.YtoeejepamlnkkaaWrapS
namespace Go.Proofs.Ytoeejepamlnkkaa
open Go.RowKit
set_option maxRecDepth 100000

/-- paragraphs that are small enough to be counted -/
structure Small (ps : pl.Gs) : Prop where
  len : ps.length ≤ 1048576
  rows : ∀ k, k < ps.length → (pl.nthP ps k).length ≤ 1048576
  size : ∀ k, k < ps.length → ∀ i, i < (pl.nthP ps k).length → (nth (pl.nthP ps k) i).size ≤ 1048576

set_option maxHeartbeats 2000000 in
theorem ivalidParts_any (ps : pl.Gs) (v : Value) (w : World) (hr : RPs w v ps) (hs : Small ps) :
    Calls Try.prog 63 #[v] w fun e w' => e = .returned (.bool (pl.partsB ps)) ∧ w = w' := by
  obtain ⟨n, hn⟩ : ∃ n, n = ps.length := ⟨_, rfl⟩
  have HN := Lib.hid hn
  have HS := Lib.hid hs
  have HR := Lib.hid hr
  obtain ⟨a0, cap0, rfl⟩ := hr.slice
  have hl := hs.len
  rw [← hn] at HR hl ⊢
  clear hn hr hs
  go_enter Try.func63, Try.ntmps63
  go_wp2_with fail
  go_loop [3, 8] (fun tv iv => ∃ (k t : Nat), k ≤ n ∧ tv = .int .i64 t ∧ iv = .int .i64 k ∧ t ≤ 20 ∧ Hid (t = pl.totTo ps k) ∧ Hid (∀ i, i < k → 0 < (pl.nthP ps i).length)) (fun _ iv => n - (intOf iv).toNat)
  case atStart => exact ⟨0, 0, Nat.zero_le _, rfl, rfl, by omega, Lib.hid rfl, Lib.hid (fun i h => absurd h (by omega))⟩
  case round =>
    obtain ⟨k, t, hk, rfl, rfl, ht, htt, hpos⟩ := hrel
    by_cases hlt : k < n
    · have hkl : Hid (k < ps.length) := Lib.hid (by rw [← HN.out]; exact hlt)
      obtain ⟨b1, o1, u, rfl, _, hc, hu⟩ := HR.out.at HN.out (Below.refl _ _) hlt
      obtain ⟨au, cu, hv⟩ := hu.1.slice
      have hrow := HS.out.rows k hkl.out
      obtain ⟨m, HM⟩ : ∃ m, Hid ((pl.nthP ps k).length = m) := ⟨_, Lib.hid rfl⟩
      rw [HM.out] at hv hrow
      subst hv
      have hts := Lib.hid ((pl.totTo_succ ps k).trans (by rw [← htt.out, HM.out]))
      clear hu
      by_cases hm0 : m = 0
      · have hb := Lib.hid (pl.partsB_empty hkl.out (by rw [HM.out]; exact hm0))
        have hme : ((m : Int) == 0) = true := by rw [hm0]; rfl
        clear hm0
        go_wp2_with fail
        go_ret
        exact ⟨ret_b hb.out.symm, rfl⟩
      · have hme : ((m : Int) == 0) = false := beq_eq_false_iff_ne.2 (by omega)
        by_cases hbig : 20 < t + m
        · have hb := Lib.hid (pl.partsB_long (ps := ps) (k := k + 1) (by have := hkl.out; omega) (by rw [hts.out]; exact hbig))
          have hbi : (20 : Int) < (t : Int) + (m : Int) := by omega
          go_wp2_with fail
          go_ret
          exact ⟨ret_b hb.out.symm, rfl⟩
        · have hbi : ¬ (20 : Int) < (t : Int) + (m : Int) := by omega
          have hp2 : Hid (∀ i, i < k + 1 → 0 < (pl.nthP ps i).length) := Lib.hid (fun i hi => by
            by_cases e : i = k
            · subst e; rw [HM.out]; omega
            · exact hpos.out i (by omega))
          go_wp2_with fail
          go_round
          case rel => exact ⟨k + 1, t + m, by omega, by go_num, by go_num, by omega, Lib.hid hts.out.symm, hp2⟩
          case measure => simp [intOf]; omega
    · obtain rfl : k = n := by omega
      have hb := Lib.hid (pl.partsB_yes (ps := ps) (by rw [← HN.out]; exact hpos.out) (by rw [← HN.out, ← htt.out]; exact ht))
      go_wp2_with fail
      go_ret
      exact ⟨ret_b hb.out.symm, rfl⟩

namespace pl
theorem inR_next (wd : Int) : inR (wd + 1) 1 120 = (decide (0 ≤ wd) && decide (wd ≤ 119)) := by
  unfold inR
  congr 1 <;> apply decide_eq_decide.2 <;> omega
theorem wrapB_pos {wd : Int} {l : List ByteArray} (h : 0 < l.length) : 0 < (wrapB wd l).length := by
  unfold wrapB
  rw [List.length_map]
  exact List.length_pos_iff.2 (grW_ne _ _ h)
theorem softTo_step {l l' : List ByteArray} {k : Nat} {x : ByteArray} (h : softTo l l' k) (hk : k < l.length) (hx : nth l k = x) : softTo l (l'.set k (x ++ sp1)) (k + 1) := by
  obtain ⟨h1, h2, h3⟩ := h
  refine ⟨by simp [h1], fun i hi => ?_, fun i hi hl => ?_⟩
  · by_cases e : i = k
    · subst e; rw [nth_set_same (by omega), hx]
    · rw [nth_set_other (by omega) e]; exact h2 i (by omega)
  · rw [nth_set_other (by omega) (by omega)]; exact h3 i (by omega) hl
theorem wrap_size {wd : Int} {l : List ByteArray} (hf : fitA l wd = true) : ∀ i, i < (wrapB wd l).length → ((nth (wrapB wd l) i).size : Int) ≤ wd := by
  intro i hi
  rw [nth_eq hi]
  have hm := List.getElem_mem hi
  generalize (wrapB wd l)[i] = y at hm ⊢
  unfold wrapB at hm
  obtain ⟨g, hg, rfl⟩ := List.mem_map.1 hm
  have := greedy_fits (wd := wd) (l := l) (fitA_parts hf).1 l.length (Nat.le_refl _) g hg
  rw [jline_size]; exact this
end pl

theorem iFlow_no (ps : pl.Gs) (wd : Int) (v : Value) (w : World) (hr : RPs w v ps) (hs : Small ps) (h : pl.inR wd 1 119 = false ∨ (pl.inR wd 1 119 = true ∧ pl.partsB ps = false)) :
    Calls Try.prog 24 #[v, .int .i64 wd] w fun e w' => e = .returned (.tuple #[.slice none 0 0, .bool false]) ∧ w = w' := by
  by_cases h1 : pl.inR wd 1 120 = true
  · obtain ⟨hw1, hw2⟩ : 1 ≤ wd ∧ wd ≤ 120 := by simpa [pl.inR] using h1
    by_cases h2 : pl.inR (wd + 1) 1 120 = true
    · have h3 : pl.partsB ps = false := by
        rcases h with h | ⟨_, h⟩
        · exfalso
          have h4 : wd ≤ 119 := by
            unfold pl.inR at h2; simp at h2; omega
          rw [pl.inR_true hw1 h4] at h; cases h
        · exact h
      go_enter Try.func24, Try.ntmps24
      go_wp2_with fail
      refine (isWidth_any _ _).mono ?_
      rintro e w' ⟨rfl, rfl⟩
      rw [h1]
      go_wp2_with fail
      refine (isWidth_any _ _).mono ?_
      rintro e w' ⟨rfl, rfl⟩
      rw [h2]
      go_wp2_with fail
      refine (ivalidParts_any ps v _ hr hs).mono ?_
      rintro e w' ⟨rfl, rfl⟩
      rw [h3]
      go_wp2_with fail
      go_ret2
      exact ⟨rfl, rfl⟩
    · have h2' : pl.inR (wd + 1) 1 120 = false := by simpa using h2
      clear h2
      go_enter Try.func24, Try.ntmps24
      go_wp2_with fail
      refine (isWidth_any _ _).mono ?_
      rintro e w' ⟨rfl, rfl⟩
      rw [h1]
      go_wp2_with fail
      refine (isWidth_any _ _).mono ?_
      rintro e w' ⟨rfl, rfl⟩
      rw [h2']
      go_wp2_with fail
      go_ret2
      exact ⟨rfl, rfl⟩
  · have h1' : pl.inR wd 1 120 = false := by simpa using h1
    clear h1
    go_enter Try.func24, Try.ntmps24
    go_wp2_with fail
    refine (isWidth_any _ _).mono ?_
    rintro e w' ⟨rfl, rfl⟩
    rw [h1']
    go_wp2_with fail
    go_ret2
    exact ⟨rfl, rfl⟩

set_option maxHeartbeats 8000000 in
theorem iFlow_ok (ps : pl.Gs) (wd : Int) (v : Value) (w : World) (hr : RPs w v ps) (hs : Small ps) (hin : pl.inR wd 1 119 = true) (hpb : pl.partsB ps = true) :
    Calls Try.prog 24 #[v, .int .i64 wd] w fun e w' => ∃ v', e = .returned (.tuple #[v', .bool (pl.flowB ps wd)]) ∧ OStrs w.heap.size w' v' (pl.flowR ps wd) ∧ Below w.heap.size w w' := by
  obtain ⟨i0, hi, hz0, hz1, hz2⟩ := info_parts infoS
  obtain ⟨hw1, hw2⟩ : 1 ≤ wd ∧ wd ≤ 119 := by simpa [pl.inR] using hin
  have h1 := Lib.hid (pl.inR_true (n := wd) (lo := 1) (hi := 120) hw1 (by omega))
  have h2 := Lib.hid (pl.inR_true (n := wd + 1) (lo := 1) (hi := 120) (by omega) (by omega))
  have HI := Lib.hid hin
  have HP := Lib.hid hpb
  have hpp := Lib.hid (pl.partsB_parts hpb)
  have h20 := pl.parts_len hpb
  obtain ⟨n, hn⟩ : ∃ n, n = ps.length := ⟨_, rfl⟩
  have HN := Lib.hid hn
  have HS := Lib.hid hs
  have HR := Lib.hid hr
  obtain ⟨a0, cap0, rfl⟩ := hr.slice
  rw [← hn] at HR h20 ⊢
  clear hn hr hs hin hpb
  go_enter Try.func24, Try.ntmps24
  go_wp2_with fail
  refine (isWidth_any _ _).mono ?_
  rintro e w' ⟨rfl, rfl⟩
  rw [h1.out]
  go_wp2_with fail
  refine (isWidth_any _ _).mono ?_
  rintro e w' ⟨rfl, rfl⟩
  rw [h2.out]
  go_wp2_with fail
  refine (ivalidParts_any ps _ _ HR.out HS.out).mono ?_
  rintro e w' ⟨rfl, rfl⟩
  rw [HP.out]
  go_wp2_with fail
  go_loopw [6, 28] (fun ov iv wr => ∃ k : Nat, k ≤ n ∧ iv = .int .i64 k ∧ OStrs w.heap.size wr ov (pl.flowTo ps wd k) ∧ Hid (∀ i, i < k → pl.fitA (pl.nthP ps i) wd = true) ∧ Below w.heap.size w wr) (fun _ iv _ => n - (intOf iv).toNat)
  case atStart => exact ⟨0, Nat.zero_le _, rfl, OStrs.nil _ _, Lib.hid (fun i h => absurd h (by omega)), Below.refl _ _⟩
  case round =>
    obtain ⟨k, hk, rfl, hown, hfit, hbel⟩ := hrel
    by_cases hlt : k < n
    · have hkl : Hid (k < ps.length) := Lib.hid (by rw [← HN.out]; exact hlt)
      obtain ⟨b1, o1, u, rfl, _, hc, hu⟩ := HR.out.at HN.out hbel hlt
      have hplen : Hid ((pl.nthP ps k).length ≤ maxLen) := Lib.hid (Nat.le_trans (HS.out.rows k hkl.out) (by unfold maxLen; omega))
      have hpsz : Hid (∀ i, i < (pl.nthP ps k).length → (nth (pl.nthP ps k) i).size ≤ maxLen) := Lib.hid (fun i hi => Nat.le_trans (HS.out.size k hkl.out i hi) (by unfold maxLen; omega))
      have hppos : Hid (0 < (pl.nthP ps k).length) := Lib.hid (hpp.out.1 k hkl.out)
      have hfl := pl.flowTo_len (ps := ps) (wd := wd) k (by have := hkl.out; omega)
      have htot := pl.totTo_le (ps := ps) (k := k) (m := ps.length) (by have := hkl.out; omega)
      have hf20 : (pl.flowTo ps wd k).length ≤ 20 := by have := hpp.out.2; omega
      have hstep := Lib.hid (pl.flowTo_succ (ps := ps) (wd := wd) hkl.out)
      obtain ⟨P, HPP⟩ : ∃ P, Hid (pl.nthP ps k = P) := ⟨_, Lib.hid rfl⟩
      obtain ⟨F, HF⟩ : ∃ F, Hid (pl.flowTo ps wd k = F) := ⟨_, Lib.hid rfl⟩
      rw [HPP.out] at hu hplen hpsz hppos hstep
      rw [HF.out] at hown hf20 hstep
      have HU := Lib.hid hu
      have HO := Lib.hid hown
      have HB := Lib.hid hbel
      have HLT : Hid (∀ g, u6.ownBlock = some g → g < wr.heap.size) := Lib.hid (fun g hg => (World.ownsRow.lt hown g hg).2)
      clear hu hown hbel hfl htot
      go_wp2_with fail
      refine (iWrapWords_any P wd u _ HU.out hplen.out hpsz.out).mono ?_
      rintro e w2 ⟨v2, rfl, ho2, hb2⟩
      have HO2 := Lib.hid (HO.out.below (Nat.le_refl _) hb2)
      have HB2 := Lib.hid (HB.out.trans (hb2.mono HB.out.size))
      have hC2 : wr.heap.size ≤ w2.heap.size := hb2.size
      have HSZ := Lib.hid HB.out.size
      clear hb2 hc
      by_cases hf : pl.fitA P wd = true
      · have hwB := Lib.hid (pl.wrapR_yes hf)
        have hwpos := pl.wrapB_pos (wd := wd) hppos.out
        have hwsz := Lib.hid (pl.wrap_size hf)
        have hwlen := pl.wrapB_len wd P
        have hP9 := (pl.vWords_parts (pl.fitA_parts hf).2.1).1
        have hfit2 : Hid (∀ i, i < k + 1 → pl.fitA (pl.nthP ps i) wd = true) := Lib.hid (fun i hi => by
          by_cases e : i = k
          · subst e; rw [HPP.out]; exact hf
          · exact hfit.out i (by omega))
        rw [hwB.out] at ho2
        rw [hf]
        obtain ⟨L, HL⟩ : ∃ L, Hid (pl.wrapB wd P = L) := ⟨_, Lib.hid rfl⟩
        rw [HL.out] at ho2 hwpos hwsz hwlen hstep
        obtain ⟨N, HNN⟩ : ∃ N, Hid (L.length = N) := ⟨_, Lib.hid rfl⟩
        have ho2b := ho2
        rcases ho2b.2 with ⟨_, hn0⟩ | ⟨g, c2, cu, hv2, hgB, hgh, hgle, hgm, hgs, hgt⟩
        · omega
        subst hv2
        rw [HNN.out] at hgle hwpos hwlen ⊢
        have ho3 : w2.ownsRow wr.heap.size 9 1 (.slice (some ⟨g, 0, none⟩) N c2) N (L.map Value.string) := by
          unfold OStrs at ho2; rw [HNN.out] at ho2; exact ho2
        clear hf ho2 ho2b hgh hgs hgt
        have hsub : Hid ((N : Int) - 1 = ((N - 1 : Nat) : Int)) := Lib.hid (by omega)
        generalize wr.heap.size = C at hgB ho3 HLT HSZ hC2
        go_wp2_with fail
        · go_loopw [11, 43] (fun _ jv wr => ∃ (j : Nat) (l' : List ByteArray), j ≤ N - 1 ∧ jv = .int .i64 j ∧ Hid (pl.softTo L l' j) ∧ wr.ownsRow C 9 1 (.slice (some ⟨g, 0, none⟩) N c2) N (l'.map Value.string) ∧ Below C w2 wr) (fun _ jv _ => N - 1 - (intOf jv).toNat)
          case atStart => exact ⟨0, L, Nat.zero_le _, rfl, Lib.hid (pl.softTo_zero L), ho3, Below.refl _ _⟩
          case round =>
            obtain ⟨j, l', hj, rfl, hsoft, how, hbw⟩ := hrel
            have HBW := Lib.hid hbw
            by_cases hjt : j < N - 1
            · exact absurd hjt (by omega)
            · have hje : Hid (j + 1 = L.length) := Lib.hid (by rw [HNN.out]; omega)
              have hle : Hid (l' = pl.softL L) := Lib.hid (pl.softTo_all hsoft.out hje.out)
              have HL2 : Hid (l'.length = N) := Lib.hid (hsoft.out.1.trans HNN.out)
              have HO4 : Hid (OStrs w.heap.size wr u6 F) := Lib.hid (own_keep HO2.out (fun b hb => hbw.block b (HLT.out b hb)))
              have HB4 := Lib.hid (HB2.out.trans (hbw.mono HSZ.out))
              have HC : Hid (∀ i u, (l'.map Value.string)[i]? = some u → wr.cell? ((⟨g, 0, none⟩ : Addr).add i) = some u) := Lib.hid (fun i u hu => by
                have hadd : (⟨g, 0, none⟩ : Addr).add i = ⟨g, i, none⟩ := by unfold Addr.add; split <;> simp_all
                have hi2 : i < l'.length := by
                  have := (List.getElem?_eq_some_iff.1 hu).1
                  simpa using this
                rw [hadd, World.ownsRow.cellAt how i (by have := HL2.out; omega)]
                exact hu)
              have hszw : C ≤ wr.heap.size := Nat.le_trans hC2 hbw.size
              have hszw2 := HSZ.out
              clear hbw how hsoft
              go_wp2_with (at_builtin; refine wpList_append_own _ rfl _ _ 23 rfl w.heap.size 9 i0 (.string ByteArray.empty) 1 16 Try.underlying23 hi hz0 hz1 hz2 rfl (by decide) _ _ _ rfl HO4.out ⟨g, 0, none⟩ N _ (l'.map Value.string) rfl (by simp [HL2.out]) HC.out ?cA2 ?cA3 ?cA4 ?cA5 ?_)
              case cA2 => intro u hu; rw [List.mem_map] at hu; obtain ⟨s, _, rfl⟩ := hu; rfl
              case cA3 => unfold maxLen; omega
              case cA4 => omega
              case cA5 => omega
              intro v8 w8 hown8 hgrow8 _
              have HB8 := Lib.hid (HB4.out.grown hgrow8 (Nat.le_trans hszw2 hszw) (fun b hb => (World.ownsRow.lt HO4.out b hb).1))
              have HO8 : Hid (OStrs w.heap.size w8 v8 (pl.flowTo ps wd (k + 1))) := Lib.hid (by rw [hstep.out, ← hle.out]; unfold OStrs; simpa [HL2.out] using hown8)
              clear hown8 hgrow8
              go_wp2
              go_roundw
              case rel => exact ⟨k + 1, by omega, by go_num, HO8.out, hfit2, HB8.out⟩
              case measure => simp [intOf]; omega
        · go_loopw [11, 43] (fun _ jv wr => ∃ (j : Nat) (l' : List ByteArray), j ≤ N - 1 ∧ jv = .int .i64 j ∧ Hid (pl.softTo L l' j) ∧ wr.ownsRow C 9 1 (.slice (some ⟨g, 0, none⟩) N c2) N (l'.map Value.string) ∧ Below C w2 wr) (fun _ jv _ => N - 1 - (intOf jv).toNat)
          case atStart => exact ⟨0, L, Nat.zero_le _, rfl, Lib.hid (pl.softTo_zero L), ho3, Below.refl _ _⟩
          case round =>
            obtain ⟨j, l', hj, rfl, hsoft, how, hbw⟩ := hrel
            have HBW := Lib.hid hbw
            by_cases hjt : j < N - 1
            · have hjL : Hid (j < L.length) := Lib.hid (by rw [HNN.out]; omega)
              have hln : Hid (l'.length = N) := Lib.hid (hsoft.out.1.trans HNN.out)
              obtain ⟨x, HX⟩ : ∃ x, Hid (nth L j = x) := ⟨_, Lib.hid rfl⟩
              have hx : wr.cell? ⟨g, j, none⟩ = some (.string x) := by rw [own_cell how hln.out (by omega), hsoft.out.2.2 j (Nat.le_refl _) hjL.out, HX.out]
              have hxz : x.size ≤ 1048576 := by have := hwsz.out j hjL.out; rw [HX.out] at this; omega
              have hf2 := World.ownsRow.frozenAt how j
              have HO3 := Lib.hid (own_store (j := j) how (x ++ pl.sp1)).1
              have HB3 := Lib.hid (hbw.setCell (p := ⟨g, j, none⟩) hgB (.string (x ++ pl.sp1)))
              have hn2 := Lib.hid (pl.softTo_step hsoft.out hjL.out HX.out)
              have hjN : j < N := by omega
              clear how hbw hsoft
              go_wp2_with fail
              go_roundw
              case rel => exact ⟨j + 1, _, by omega, by go_num, hn2, HO3.out, HB3.out⟩
              case measure => simp [intOf]; omega
            · have hje : Hid (j + 1 = L.length) := Lib.hid (by rw [HNN.out]; omega)
              have hle : Hid (l' = pl.softL L) := Lib.hid (pl.softTo_all hsoft.out hje.out)
              have HL2 : Hid (l'.length = N) := Lib.hid (hsoft.out.1.trans HNN.out)
              have HO4 : Hid (OStrs w.heap.size wr u6 F) := Lib.hid (own_keep HO2.out (fun b hb => hbw.block b (HLT.out b hb)))
              have HB4 := Lib.hid (HB2.out.trans (hbw.mono HSZ.out))
              have HC : Hid (∀ i u, (l'.map Value.string)[i]? = some u → wr.cell? ((⟨g, 0, none⟩ : Addr).add i) = some u) := Lib.hid (fun i u hu => by
                have hadd : (⟨g, 0, none⟩ : Addr).add i = ⟨g, i, none⟩ := by unfold Addr.add; split <;> simp_all
                have hi2 : i < l'.length := by
                  have := (List.getElem?_eq_some_iff.1 hu).1
                  simpa using this
                rw [hadd, World.ownsRow.cellAt how i (by have := HL2.out; omega)]
                exact hu)
              have hszw : C ≤ wr.heap.size := Nat.le_trans hC2 hbw.size
              have hszw2 := HSZ.out
              clear hbw how hsoft
              go_wp2_with (at_builtin; refine wpList_append_own _ rfl _ _ 23 rfl w.heap.size 9 i0 (.string ByteArray.empty) 1 16 Try.underlying23 hi hz0 hz1 hz2 rfl (by decide) _ _ _ rfl HO4.out ⟨g, 0, none⟩ N _ (l'.map Value.string) rfl (by simp [HL2.out]) HC.out ?cB2 ?cB3 ?cB4 ?cB5 ?_)
              case cB2 => intro u hu; rw [List.mem_map] at hu; obtain ⟨s, _, rfl⟩ := hu; rfl
              case cB3 => unfold maxLen; omega
              case cB4 => omega
              case cB5 => omega
              intro v8 w8 hown8 hgrow8 _
              have HB8 := Lib.hid (HB4.out.grown hgrow8 (Nat.le_trans hszw2 hszw) (fun b hb => (World.ownsRow.lt HO4.out b hb).1))
              have HO8 : Hid (OStrs w.heap.size w8 v8 (pl.flowTo ps wd (k + 1))) := Lib.hid (by rw [hstep.out, ← hle.out]; unfold OStrs; simpa [HL2.out] using hown8)
              clear hown8 hgrow8
              go_wp2
              go_roundw
              case rel => exact ⟨k + 1, by omega, by go_num, HO8.out, hfit2, HB8.out⟩
              case measure => simp [intOf]; omega
      · have hf' : pl.fitA P wd = false := by simpa using hf
        have hb := Lib.hid (pl.flowB_no (ps := ps) (wd := wd) (.inr (.inr ⟨k, hkl.out, by rw [HPP.out]; exact hf'⟩)))
        have hw := Lib.hid (pl.flowR_no hb.out)
        rw [hf']
        clear hf hf' ho2
        go_wp2_with fail
        go_ret2
        exact ⟨_, by rw [hb.out]; rfl, by rw [hw.out]; exact OStrs.nil _ _, HB2.out⟩
    · obtain rfl : k = n := by omega
      have hb := Lib.hid (pl.flowB_yes HI.out HP.out (by rw [← HN.out]; exact hfit.out))
      have hw : Hid (pl.flowR ps wd = pl.flowTo ps wd k) := Lib.hid (by rw [pl.flowR_yes hb.out, ← HN.out])
      go_wp2_with fail
      go_ret2
      exact ⟨_, by rw [hb.out]; rfl, by rw [hw.out]; exact hown, hbel⟩

theorem iFlow_any (ps : pl.Gs) (wd : Int) (v : Value) (w : World) (hr : RPs w v ps) (hs : Small ps) :
    Calls Try.prog 24 #[v, .int .i64 wd] w fun e w' => ∃ v', e = .returned (.tuple #[v', .bool (pl.flowB ps wd)]) ∧ OStrs w.heap.size w' v' (pl.flowR ps wd) ∧ Below w.heap.size w w' := by
  have no : ∀ (_ : pl.inR wd 1 119 = false ∨ (pl.inR wd 1 119 = true ∧ pl.partsB ps = false)), Calls Try.prog 24 #[v, .int .i64 wd] w fun e w' => ∃ v', e = .returned (.tuple #[v', .bool (pl.flowB ps wd)]) ∧ OStrs w.heap.size w' v' (pl.flowR ps wd) ∧ Below w.heap.size w w' := by
    intro h
    have hb : pl.flowB ps wd = false := pl.flowB_no (by rcases h with h | h; exact .inl h; exact .inr (.inl h.2))
    refine (iFlow_no ps wd v w hr hs h).mono ?_
    rintro e w' ⟨rfl, rfl⟩
    exact ⟨_, by rw [hb], by rw [pl.flowR_no hb]; exact OStrs.nil _ _, Below.refl _ _⟩
  by_cases h1 : pl.inR wd 1 119 = true
  · by_cases h2 : pl.partsB ps = true
    · exact iFlow_ok ps wd v w hr hs h1 h2
    · exact no (.inr ⟨h1, by simpa using h2⟩)
  · exact no (.inl (by simpa using h1))
end Go.Proofs.Ytoeejepamlnkkaa
