/- Contract: the model's FlowLines. -/
import Derived.Test.YtoeejepamlnkkaaFlow
import Derived.Maps.AppendAt
namespace Go.Proofs.Ytoeejepamlnkkaa
open Go.RowKit
set_option maxRecDepth 100000

namespace pl
/-- the model's test of paragraphs -/
def vParts (ps : Gs) : Bool := partsB ps && ps.all vWords
theorem vParts_yes {ps : Gs} (h1 : ∀ k, k < ps.length → vWords (nthP ps k) = true) (h2 : ∀ k, k < ps.length → 0 < (nthP ps k).length) (h3 : totTo ps ps.length ≤ 20) : vParts ps = true := by
  unfold vParts; rw [partsB_yes h2 h3, all_nthP h1]; rfl
theorem vParts_long {ps : Gs} (h3 : ¬ totTo ps ps.length ≤ 20) : vParts ps = false := by
  unfold vParts; rw [partsB_long (Nat.le_refl _) (by omega)]; rfl
theorem vParts_empty {ps : Gs} {k : Nat} (hk : k < ps.length) (h : (nthP ps k).length = 0) : vParts ps = false := by
  unfold vParts; rw [partsB_empty hk h]; rfl
theorem vParts_bad {ps : Gs} {k : Nat} (hk : k < ps.length) (h : vWords (nthP ps k) = false) : vParts ps = false := by
  unfold vParts; rw [all_nthP_no hk h, Bool.and_false]
theorem vParts_no {ps : Gs} {wd : Int} (h : vParts ps = false) : flowB ps wd = false := by
  by_cases h1 : partsB ps = true
  · refine flowB_no (.inr (.inr ?_))
    unfold vParts at h
    rw [h1, Bool.true_and] at h
    obtain ⟨p, hp, hv⟩ := List.all_eq_false.1 h
    obtain ⟨k, hk, rfl⟩ := List.getElem_of_mem hp
    refine ⟨k, hk, ?_⟩
    rw [nthP_eq hk]
    cases hf : fitA ps[k] wd with
    | false => rfl
    | true => exact absurd (fitA_parts hf).2.1 (by simpa using hv)
  · exact flowB_no (.inr (.inl (by simpa using h1)))
theorem vParts_parts {ps : Gs} (h : vParts ps = true) : partsB ps = true ∧ ∀ k, k < ps.length → vWords (nthP ps k) = true := by
  unfold vParts at h
  simp only [Bool.and_eq_true] at h
  exact ⟨h.1, fun k hk => all_at h.2 hk⟩
theorem softL_take {l : List ByteArray} {j : Nat} (h : j < l.length) : (softL l).take (j + 1) = (softL l).take j ++ [softF l j] := by
  rw [List.take_succ_eq_append_getElem (by rw [softL_len]; exact h), ← nth_eq (by rw [softL_len]; exact h), softL_nth h]
end pl

set_option maxHeartbeats 2000000 in
theorem svalidParts_any (ps : pl.Gs) (v : Value) (w : World) (hr : RPs w v ps) (hs : Small ps) :
    Calls Try.prog 64 #[v] w fun e w' => e = .returned (.bool (pl.vParts ps)) ∧ w = w' := by
  obtain ⟨n, hn⟩ : ∃ n, n = ps.length := ⟨_, rfl⟩
  have HN := Lib.hid hn
  have HS := Lib.hid hs
  have HR := Lib.hid hr
  obtain ⟨a0, cap0, rfl⟩ := hr.slice
  have hl := hs.len
  rw [← hn] at HR hl ⊢
  clear hn hr hs
  go_enter Try.func64, Try.ntmps64
  go_wp2_with fail
  go_loop [3, 4] (fun tv iv => ∃ (k t : Nat), k ≤ n ∧ tv = .int .i64 t ∧ iv = .int .i64 k ∧ t ≤ 9 * k ∧ Hid (t = pl.totTo ps k) ∧ Hid (∀ i, i < k → 0 < (pl.nthP ps i).length) ∧ Hid (∀ i, i < k → pl.vWords (pl.nthP ps i) = true)) (fun _ iv => n - (intOf iv).toNat)
  case atStart => exact ⟨0, 0, Nat.zero_le _, rfl, rfl, by omega, Lib.hid rfl, Lib.hid (fun i h => absurd h (by omega)), Lib.hid (fun i h => absurd h (by omega))⟩
  case round =>
    obtain ⟨k, t, hk, rfl, rfl, ht, htt, hpos, hvv⟩ := hrel
    by_cases hlt : k < n
    · have hkl : Hid (k < ps.length) := Lib.hid (by rw [← HN.out]; exact hlt)
      obtain ⟨b1, o1, u, rfl, _, hc, hu⟩ := HR.out.at HN.out (Below.refl _ _) hlt
      obtain ⟨au, cu, hv⟩ := hu.1.slice
      have hrow := HS.out.rows k hkl.out
      have hpsz : Hid (∀ i, i < (pl.nthP ps k).length → (nth (pl.nthP ps k) i).size ≤ maxLen) := Lib.hid (fun i hi => Nat.le_trans (HS.out.size k hkl.out i hi) (by unfold maxLen; omega))
      have hplen : Hid ((pl.nthP ps k).length ≤ maxLen) := Lib.hid (Nat.le_trans hrow (by unfold maxLen; omega))
      obtain ⟨P, HPP⟩ : ∃ P, Hid (pl.nthP ps k = P) := ⟨_, Lib.hid rfl⟩
      obtain ⟨m, HM⟩ : ∃ m, Hid (P.length = m) := ⟨_, Lib.hid rfl⟩
      have HU := Lib.hid hu.1
      rw [HPP.out] at hv hrow hpsz hplen HU
      rw [HM.out] at hv hrow
      subst hv
      have hts := Lib.hid ((pl.totTo_succ ps k).trans (by rw [← htt.out, HPP.out, HM.out]))
      clear hu
      go_wp2_with fail
      refine (svalidWords_any P _ _ HU.out hplen.out hpsz.out).mono ?_
      rintro e w' ⟨rfl, rfl⟩
      by_cases hvw : pl.vWords P = true
      · have hm9 : m ≤ 9 := by have := (pl.vWords_parts hvw).1; rw [HM.out] at this; exact this
        have hv2 : Hid (∀ i, i < k + 1 → pl.vWords (pl.nthP ps i) = true) := Lib.hid (fun i hi => by
          by_cases e : i = k
          · subst e; rw [HPP.out]; exact hvw
          · exact hvv.out i (by omega))
        rw [hvw]
        clear hvw
        by_cases hm0 : m = 0
        · have hb := Lib.hid (pl.vParts_empty hkl.out (by rw [HPP.out, HM.out]; exact hm0))
          have hme : ((m : Int) == 0) = true := by rw [hm0]; rfl
          clear hm0
          go_wp2_with fail
          go_ret
          exact ⟨ret_b hb.out.symm, rfl⟩
        · have hme : ((m : Int) == 0) = false := beq_eq_false_iff_ne.2 (by omega)
          have hp2 : Hid (∀ i, i < k + 1 → 0 < (pl.nthP ps i).length) := Lib.hid (fun i hi => by
            by_cases e : i = k
            · subst e; rw [HPP.out, HM.out]; omega
            · exact hpos.out i (by omega))
          go_wp2_with fail
          go_round
          case rel => exact ⟨k + 1, t + m, by omega, by go_num, by go_num, by omega, Lib.hid hts.out.symm, hp2, hv2⟩
          case measure => simp [intOf]; omega
      · have hvw' : pl.vWords P = false := by simpa using hvw
        have hb := Lib.hid (pl.vParts_bad hkl.out (by rw [HPP.out]; exact hvw'))
        rw [hvw']
        clear hvw hvw'
        go_wp2_with fail
        go_ret
        exact ⟨ret_b hb.out.symm, rfl⟩
    · obtain rfl : k = n := by omega
      by_cases h20 : t ≤ 20
      · have hb := Lib.hid (pl.vParts_yes (ps := ps) (by rw [← HN.out]; exact hvv.out) (by rw [← HN.out]; exact hpos.out) (by rw [← HN.out, ← htt.out]; exact h20))
        have h20i : (t : Int) ≤ 20 := by omega
        go_wp2_with fail
        go_ret
        exact ⟨ret_b (by rw [hb.out]), rfl⟩
      · have hb := Lib.hid (pl.vParts_long (ps := ps) (by rw [← HN.out, ← htt.out]; exact h20))
        have h20i : ¬ (t : Int) ≤ 20 := by omega
        go_wp2_with fail
        go_ret
        exact ⟨ret_b (by rw [hb.out]), rfl⟩

set_option maxHeartbeats 8000000 in
theorem sFlow_ok (ps : pl.Gs) (wd : Int) (v : Value) (w : World) (hr : RPs w v ps) (hs : Small ps) (hin : pl.inR wd 1 119 = true) (hvp : pl.vParts ps = true) :
    Calls Try.prog 25 #[v, .int .i64 wd] w fun e w' => ∃ v', e = .returned (.tuple #[v', .bool (pl.flowB ps wd)]) ∧ OStrs w.heap.size w' v' (pl.flowR ps wd) ∧ Below w.heap.size w w' := by
  obtain ⟨i0, hi, hz0, hz1, hz2⟩ := info_parts infoS
  obtain ⟨hw1, hw2⟩ : 1 ≤ wd ∧ wd ≤ 119 := by simpa [pl.inR] using hin
  have HI := Lib.hid hin
  have HVP := Lib.hid hvp
  have HP := Lib.hid (pl.vParts_parts hvp).1
  have HVW := Lib.hid (pl.vParts_parts hvp).2
  have hpp := Lib.hid (pl.partsB_parts HP.out)
  have h20 := pl.parts_len HP.out
  obtain ⟨n, hn⟩ : ∃ n, n = ps.length := ⟨_, rfl⟩
  have HN := Lib.hid hn
  have HS := Lib.hid hs
  have HR := Lib.hid hr
  obtain ⟨a0, cap0, rfl⟩ := hr.slice
  rw [← hn] at HR h20 ⊢
  clear hn hr hs hin hvp
  go_enter Try.func25, Try.ntmps25
  go_wp2_with fail
  refine (svalidParts_any ps _ _ HR.out HS.out).mono ?_
  rintro e w' ⟨rfl, rfl⟩
  rw [HVP.out]
  go_wp2_with fail
  refine (inRange_any _ _ _ _).mono ?_
  rintro e w' ⟨rfl, rfl⟩
  rw [HI.out]
  go_wp2_with fail
  go_loopw [6, 7] (fun ov iv wr => ∃ k : Nat, k ≤ n ∧ iv = .int .i64 k ∧ OStrs w.heap.size wr ov (pl.flowTo ps wd k) ∧ Hid (∀ i, i < k → pl.fitA (pl.nthP ps i) wd = true) ∧ Below w.heap.size w wr) (fun _ iv _ => n - (intOf iv).toNat)
  case atStart => exact ⟨0, Nat.zero_le _, rfl, World.ownsRow_made _ _ _ (Nat.le_refl _) (by unfold maxLen; omega) rfl, Lib.hid (fun i h => absurd h (by omega)), (Below.refl _ _).alloc (Nat.le_refl _) _⟩
  case round =>
    obtain ⟨k, hk, rfl, hown, hfit, hbel⟩ := hrel
    by_cases hlt : k < n
    · have hkl : Hid (k < ps.length) := Lib.hid (by rw [← HN.out]; exact hlt)
      obtain ⟨b1, o1, u, rfl, _, hc, hu⟩ := HR.out.at HN.out hbel hlt
      have hvk := HVW.out k hkl.out
      have hppos : Hid (0 < (pl.nthP ps k).length) := Lib.hid (hpp.out.1 k hkl.out)
      have hfl := pl.flowTo_len (ps := ps) (wd := wd) k (by have := hkl.out; omega)
      have htot := pl.totTo_le (ps := ps) (k := k) (m := ps.length) (by have := hkl.out; omega)
      have hf20 : (pl.flowTo ps wd k).length ≤ 20 := by have := hpp.out.2; omega
      have hstep := Lib.hid (pl.flowTo_succ (ps := ps) (wd := wd) hkl.out)
      obtain ⟨P, HPP⟩ : ∃ P, Hid (pl.nthP ps k = P) := ⟨_, Lib.hid rfl⟩
      obtain ⟨F, HF⟩ : ∃ F, Hid (pl.flowTo ps wd k = F) := ⟨_, Lib.hid rfl⟩
      rw [HPP.out] at hu hvk hppos hstep
      rw [HF.out] at hown hf20 hstep
      have hP9 := (pl.vWords_parts hvk).1
      have h12 : Hid (∀ x ∈ P, x.size ≤ 12) := Lib.hid (pl.words_12 hvk)
      have hpsz : Hid (∀ i, i < P.length → (nth P i).size ≤ maxLen) := Lib.hid (fun i hi => by rw [nth_eq hi]; exact Nat.le_trans (h12.out _ (List.getElem_mem hi)) (by unfold maxLen; omega))
      have hplen : Hid (P.length ≤ maxLen) := Lib.hid (Nat.le_trans hP9 (by unfold maxLen; omega))
      have HU := Lib.hid hu
      have HO := Lib.hid hown
      have HB := Lib.hid hbel
      have HSZ := Lib.hid hbel.size
      clear hu hown hbel hfl htot hvk
      go_wp2_with fail
      refine (fitAll_any P wd u _ HU.out.1 hplen.out hpsz.out).mono ?_
      rintro e w' ⟨rfl, rfl⟩
      by_cases hf : pl.fitA P wd = true
      · have hwpos := pl.wrapB_pos (wd := wd) hppos.out
        have hwsz := Lib.hid (pl.wrap_size hf)
        have hwlen := pl.wrapB_len wd P
        have hfit2 : Hid (∀ i, i < k + 1 → pl.fitA (pl.nthP ps i) wd = true) := Lib.hid (fun i hi => by
          by_cases e : i = k
          · subst e; rw [HPP.out]; exact hf
          · exact hfit.out i (by omega))
        rw [hf]
        clear hf
        go_wp2_with fail
        refine (sgreedy_any P wd u _ HU.out.1 hP9 h12.out).mono ?_
        rintro e w2 ⟨v2, rfl, ho2, hb2⟩
        have HO2 := Lib.hid (HO.out.below (Nat.le_refl _) hb2)
        have HB2 := Lib.hid (HB.out.trans (hb2.mono HSZ.out))
        have hlt6 := Lib.hid (fun b (hb : u6.ownBlock = some b) => (World.ownsRow.lt HO.out b hb).2)
        obtain ⟨L, HL⟩ : ∃ L, Hid (pl.wrapB wd P = L) := ⟨_, Lib.hid rfl⟩
        rw [HL.out] at ho2 hwpos hwsz hwlen hstep
        obtain ⟨N, HNN⟩ : ∃ N, Hid (L.length = N) := ⟨_, Lib.hid rfl⟩
        have ho2b := ho2
        rcases ho2b.2 with ⟨_, hn0⟩ | ⟨g, c2, cu, hv2, hgB, hgh, hgle, hgm, hgs, hgt⟩
        · omega
        subst hv2
        rw [HNN.out] at hgle hwpos hwlen ⊢
        have hne6 : Hid (u6.ownBlock ≠ some g) := Lib.hid (fun e => by have := hlt6.out g e; omega)
        have ho3 : w2.ownsRow w.heap.size 9 1 (.slice (some ⟨g, 0, none⟩) N c2) N (L.map Value.string) := by
          unfold OStrs at ho2; rw [HNN.out] at ho2; exact own_mono ho2 HSZ.out
        clear ho2 ho2b hgh hgs hgt hb2 hc
        go_wp2_with fail
        go_loopw [6, 9] (fun ov jv wr => ∃ j : Nat, j ≤ N ∧ jv = .int .i64 j ∧ OStrs w.heap.size wr ov (F ++ (pl.softL L).take j) ∧ wr.ownsRow w.heap.size 9 1 (.slice (some ⟨g, 0, none⟩) N c2) N (L.map Value.string) ∧ Hid (ov.ownBlock ≠ some g) ∧ Below w.heap.size w wr) (fun _ jv _ => N - (intOf jv).toNat)
        case atStart => exact ⟨0, Nat.zero_le _, rfl, by rw [List.take_zero, List.append_nil]; exact HO2.out, ho3, hne6, HB2.out⟩
        case round =>
          obtain ⟨j, hj, rfl, hown, hlines, hne, hbel⟩ := hrel
          by_cases hjt : j < N
          · have hjL : Hid (j < L.length) := Lib.hid (by rw [HNN.out]; omega)
            obtain ⟨x, HX⟩ : ∃ x, Hid (nth L j = x) := ⟨_, Lib.hid rfl⟩
            have hx : wr.cell? ⟨g, j, none⟩ = some (.string x) := by rw [own_cell hlines HNN.out hjt, HX.out]
            have hxz : x.size ≤ 1048576 := by have := hwsz.out j hjL.out; rw [HX.out] at this; omega
            have HO4 := Lib.hid hown
            have HL4 := Lib.hid hlines
            have HB4 := Lib.hid hbel
            have hglt : Hid (g < wr.heap.size) := Lib.hid (World.ownsRow.lt hlines g rfl).2
            have hsz4 := hbel.size
            have hfl4 : Hid ((F ++ (pl.softL L).take j).length = F.length + j) := Lib.hid (by rw [List.length_append, List.length_take, pl.softL_len]; have := hjL.out; omega)
            have htk := Lib.hid (pl.softL_take hjL.out)
            clear hown hlines hbel
            by_cases hlast : j + 1 < N
            · have hla : ((j : Int) + 1) < (N : Int) := by omega
              have hsf : Hid (pl.softF L j = x ++ pl.sp1) := Lib.hid (by rw [pl.softF_more (by rw [HNN.out]; exact hlast), HX.out])
              go_wp2_with (at_builtin; refine wpList_append_own_at _ rfl _ _ 23 rfl w.heap.size 9 i0 (.string ByteArray.empty) 1 16 Try.underlying23 hi hz0 hz1 hz2 rfl (by decide) _ _ _ rfl (World.ownsRow.alloc HO4.out _) ⟨wr.heap.size, 0, none⟩ 1 1 [.string (x ++ pl.sp1)] rfl rfl ?sa1 ?sa2 ?sa3 ?sa4 ?sa5 ?_)
              case sa1 => exact cell_one_new _ _ _
              case sa2 => intro u hu; simp at hu; subst hu; rfl
              case sa3 => rw [hfl4.out]; unfold maxLen; omega
              case sa4 => rw [hfl4.out]; omega
              case sa5 => simp; omega
              intro v4 w4 hown4 hgrow4 _ hat4
              have HO5 : Hid (OStrs w.heap.size w4 v4 (F ++ (pl.softL L).take (j + 1))) := Lib.hid (by
                rw [htk.out, hsf.out, ← List.append_assoc]; unfold OStrs; simpa [Nat.add_assoc] using hown4)
              have HL5 := Lib.hid (World.ownsRow.kept (World.ownsRow.alloc HL4.out _) hgrow4 (.inr (fun e => hne.out e.symm)))
              have HB5 := Lib.hid ((HB4.out.alloc HB4.out.size _).grown hgrow4 (by have := HB4.out.size; simp; omega) (fun b hb => (World.ownsRow.lt HO4.out b hb).1))
              have hne5 : Hid (v4.ownBlock ≠ some g) := Lib.hid (fun e => by
                rcases hat4 with h | h
                · exact hne.out (h.symm.trans e)
                · rw [h] at e; simp at e; have := hglt.out; omega)
              clear hown4 hgrow4 hat4
              go_wp2
              go_roundw
              case rel => exact ⟨j + 1, by omega, by go_num, HO5.out, HL5.out, hne5, HB5.out⟩
              case measure => simp [intOf]; omega
            · have hla : ¬ ((j : Int) + 1) < (N : Int) := by omega
              have hsf : Hid (pl.softF L j = x) := Lib.hid (by rw [pl.softF_last (by rw [HNN.out]; exact hlast), HX.out])
              go_wp2_with (at_builtin; refine wpList_append_own_at _ rfl _ _ 23 rfl w.heap.size 9 i0 (.string ByteArray.empty) 1 16 Try.underlying23 hi hz0 hz1 hz2 rfl (by decide) _ _ _ rfl (World.ownsRow.alloc HO4.out _) ⟨wr.heap.size, 0, none⟩ 1 1 [.string x] rfl rfl ?sb1 ?sb2 ?sb3 ?sb4 ?sb5 ?_)
              case sb2 => first | rfl | (intro u hu; simp at hu; subst hu; rfl)
              case sb3 => unfold maxLen; omega
              case sb4 => omega
              case sb5 => omega
              intro v4 w4 hown4 hgrow4 _ hat4
              have HO5 : Hid (OStrs w.heap.size w4 v4 (F ++ (pl.softL L).take (j + 1))) := Lib.hid (by
                rw [htk.out, hsf.out, ← List.append_assoc]; unfold OStrs; simpa [Nat.add_assoc] using hown4)
              have HL5 := Lib.hid (World.ownsRow.kept (World.ownsRow.alloc HL4.out _) hgrow4 (.inr (fun e => hne.out e.symm)))
              have HB5 := Lib.hid ((HB4.out.alloc HB4.out.size _).grown hgrow4 (by have := HB4.out.size; simp; omega) (fun b hb => (World.ownsRow.lt HO4.out b hb).1))
              have hne5 : Hid (v4.ownBlock ≠ some g) := Lib.hid (fun e => by
                rcases hat4 with h | h
                · exact hne.out (h.symm.trans e)
                · rw [h] at e; simp at e; have := hglt.out; omega)
              clear hown4 hgrow4 hat4
              go_wp2
              go_roundw
              case rel => exact ⟨j + 1, by omega, by go_num, HO5.out, HL5.out, hne5, HB5.out⟩
              case measure => simp [intOf]; omega
          · obtain rfl : j = N := by omega
            have hall : Hid (F ++ (pl.softL L).take j = pl.flowTo ps wd (k + 1)) := Lib.hid (by rw [hstep.out, ← HNN.out, ← pl.softL_len L, List.take_length])
            have HO6 : Hid (OStrs w.heap.size wr u6 (pl.flowTo ps wd (k + 1))) := Lib.hid (by rw [← hall.out]; exact hown)
            have HB6 := Lib.hid hbel
            clear hown hbel hlines
            go_wp2_with fail
            go_roundw
            case rel => exact ⟨k + 1, by omega, by go_num, HO6.out, hfit2, HB6.out⟩
            case measure => simp [intOf]; omega
      · have hf' : pl.fitA P wd = false := by simpa using hf
        have hb := Lib.hid (pl.flowB_no (ps := ps) (wd := wd) (.inr (.inr ⟨k, hkl.out, by rw [HPP.out]; exact hf'⟩)))
        have hw := Lib.hid (pl.flowR_no hb.out)
        rw [hf']
        clear hf hf'
        go_wp2_with fail
        go_ret2
        exact ⟨_, by rw [hb.out]; rfl, by rw [hw.out]; exact OStrs.nil _ _, HB.out⟩
    · obtain rfl : k = n := by omega
      have hb := Lib.hid (pl.flowB_yes HI.out HP.out (by rw [← HN.out]; exact hfit.out))
      have hw : Hid (pl.flowR ps wd = pl.flowTo ps wd k) := Lib.hid (by rw [pl.flowR_yes hb.out, ← HN.out])
      go_wp2_with fail
      go_ret2
      exact ⟨_, by rw [hb.out]; rfl, by rw [hw.out]; exact hown, hbel⟩

theorem sFlow_any (ps : pl.Gs) (wd : Int) (v : Value) (w : World) (hr : RPs w v ps) (hs : Small ps) :
    Calls Try.prog 25 #[v, .int .i64 wd] w fun e w' => ∃ v', e = .returned (.tuple #[v', .bool (pl.flowB ps wd)]) ∧ OStrs w.heap.size w' v' (pl.flowR ps wd) ∧ Below w.heap.size w w' := by
  by_cases h1 : pl.vParts ps = true
  · by_cases h2 : pl.inR wd 1 119 = true
    · exact sFlow_ok ps wd v w hr hs h2 h1
    · have h2' : pl.inR wd 1 119 = false := by simpa using h2
      have hb := Lib.hid (pl.flowB_no (ps := ps) (wd := wd) (.inl h2'))
      have hw := Lib.hid (pl.flowR_no hb.out)
      clear h2
      go_enter Try.func25, Try.ntmps25
      go_wp2_with fail
      refine (svalidParts_any ps _ _ hr hs).mono ?_
      rintro e w' ⟨rfl, rfl⟩
      rw [h1]
      go_wp2_with fail
      refine (inRange_any _ _ _ _).mono ?_
      rintro e w' ⟨rfl, rfl⟩
      rw [h2']
      go_wp2_with fail
      go_ret2
      exact ⟨_, by rw [hb.out]; rfl, by rw [hw.out]; exact OStrs.nil _ _, Below.refl _ _⟩
  · have h1' : pl.vParts ps = false := by simpa using h1
    have hb := Lib.hid (pl.vParts_no (wd := wd) h1')
    have hw := Lib.hid (pl.flowR_no hb.out)
    clear h1
    go_enter Try.func25, Try.ntmps25
    go_wp2_with fail
    refine (svalidParts_any ps _ _ hr hs).mono ?_
    rintro e w' ⟨rfl, rfl⟩
    rw [h1']
    go_wp2_with fail
    go_ret2
    exact ⟨_, by rw [hb.out]; rfl, by rw [hw.out]; exact OStrs.nil _ _, Below.refl _ _⟩
end Go.Proofs.Ytoeejepamlnkkaa
