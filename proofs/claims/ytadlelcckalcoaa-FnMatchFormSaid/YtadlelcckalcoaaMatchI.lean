/- Contract: MatchForm of the program. -/
import Derived.Test.YtadlelcckalcoaaPlainMa
import Derived.Test.YtadlelcckalcoaaMatch
import Derived.Test.YtadlelcckalcoaaOFi
import Derived.Test.YtadlelcckalcoaaReadF
import Derived.Test.YtadlelcckalcoaaHoles
namespace Go.Proofs.Ytadlelcckalcoaa
open Go.RowKit Go.Maps Go.ChangeMaps Go.WideMaps
set_option maxRecDepth 100000
set_option linter.unusedVariables false

/-- the value of a name that is there, as an equation on the operation's run -/
theorem MapV.get {b n : Nat} {w : World} {vs : pl.Vals} (h : MapV b n w vs) (s : ByteArray) (hs : s.size ≤ maxLen) (v : ByteArray) (hv : vs s.data.toList = some v.data.toList) :
    (Instr.lookup 83 (.map (some b)) (.string s) false).run Try.prog w = .ok (.string v) w := by
  obtain ⟨D, h1, h2, h3⟩ := h
  obtain ⟨u, ps, hr, hu⟩ := h1.lookup keyS Try.underlying83 (zeroS w) (zd := zS) (zp := []) (plainElem_string Try.underlying9 (by unfold maxLen; decide)) (keyOf_string_mk Try.underlying9 hs)
  obtain ⟨y, rfl, hy, _⟩ := plainElem_string_inv Try.underlying9 hu
  rw [h3 _ _ hv] at hy
  have e : y = v := by
    simp only [Prod.mk.injEq, DataW.lit.injEq, Lit.string.injEq] at hy
    rw [← pl.bs_self y, ← hy.1, pl.bs_self]
  rw [hr, e]
theorem OPc.away {B b : Nat} {w : World} {v : Value} {ps : List pl.Pc} (h : OPc B w v ps) (hb : w.heap.size ≤ b) : PcAway b w v ps := by
  refine ⟨h.reads, ?_, ?_⟩
  · rcases h.2 with ⟨hv, hn⟩ | ⟨g, cap, cur, hv, hB, hg, hle, hm, hs, htake⟩
    · exact ⟨none, 0, by rw [hv, hn], by rw [hn]; exact Nat.le_refl _⟩
    · exact ⟨_, cap, hv, hle⟩
  · intro x n c hv hn
    rcases h.2 with ⟨hv2, hn2⟩ | ⟨g, cap, cur, hv2, hB, hg, hle, hm, hs, htake⟩
    · rw [hv2] at hv; injection hv with e _ _; cases e
    · rw [hv2] at hv
      injection hv with e _ _
      injection e with e
      subst e
      have := (Array.getElem?_eq_some_iff.1 hg).1
      show g ≠ b
      omega
theorem OFi.nil (B : Nat) (w : World) : OFi B w (.slice none 0 0) [] := World.ownsRow_nil _ _ _ _
theorem OFi.mono {B B' : Nat} {w : World} {v : Value} {ps : List pl.Pc} (h : OFi B w v ps) (hB : B' ≤ B) : OFi B' w v ps := by
  refine ⟨h.1, ?_⟩
  rcases h.2 with hn | ⟨g, cap, cur, rfl, hg, rest⟩
  · exact .inl hn
  · exact .inr ⟨g, cap, cur, rfl, by omega, rest⟩

def MFPost (s t : ByteArray) (w : World) (e : Ending) (w' : World) : Prop :=
  ∃ v, e = .returned (.tuple #[v, .bool (pl.matchG s t)]) ∧ OFi w.heap.size w' v (pl.matchD s t) ∧ Below w.heap.size w w'
theorem MFPost.none {s t : ByteArray} {w w' : World} (h : pl.matchR s t = Option.none) (hb : Below w.heap.size w w') : MFPost s t w (.returned (.tuple #[.slice Option.none 0 0, .bool false])) w' := by
  obtain ⟨h1, h2⟩ := pl.match_none h
  exact ⟨_, by rw [h2], by rw [h1]; exact OFi.nil _ _, hb⟩
theorem MFPost.some {s t : ByteArray} {gs : List pl.Pc} {w w' : World} {v : Value} (h : pl.matchR s t = Option.some gs) (hq : OFi w.heap.size w' v gs) (hb : Below w.heap.size w w') : MFPost s t w (.returned (.tuple #[v, .bool true])) w' := by
  obtain ⟨h1, h2⟩ := pl.match_yes h
  exact ⟨_, by rw [h2], by rw [h1]; exact hq, hb⟩

def RdMF (gs : List pl.Pc) (n E : Nat) (w4 : World) (fv iv : Value) (wr : World) : Prop :=
  ∃ k : Nat, k ≤ n ∧ iv = .int .i64 k ∧ Hid (OFi E wr fv (gs.take k)) ∧ Hid (Below E w4 wr)

set_option maxHeartbeats 8000000 in
theorem iMatchForm_any (s t : ByteArray) (w : World) (hs : s.size ≤ maxLen) (ht : t.size ≤ maxLen) (hm : MaxI w) :
    Calls Try.prog 18 #[.string s, .string t] w (MFPost s t w) := by
  have hmm := @run_makeMap Try.prog
  obtain ⟨i0, hi, hz0, hz1, hz2⟩ := info_parts infoFi2
  go_enter Try.func18, Try.ntmps18
  go_wp2_with fail
  refine (readForm_any s _ hs hm).mono ?_
  rintro e w1 ⟨hb1, hres⟩
  have HB1 := Lib.hid hb1
  clear hb1 hm
  rcases hres with ⟨m, rfl, hno⟩ | ⟨v, ps, rfl, hyes, ho, hok, hl⟩
  · have HE := Lib.hid (pl.matchR_no (t := t) hno)
    clear hno
    go_wp2_with fail
    go_ret2
    exact MFPost.none HE.out HB1.out
  · have HY := Lib.hid hyes
    have HO := Lib.hid ho
    have HK := Lib.hid hok
    clear hyes ho hok
    obtain ⟨c, HC⟩ : ∃ c, Hid ((pl.holesT (pl.flatP ps)).length = c) := ⟨_, Lib.hid rfl⟩
    go_wp2_with fail
    refine (countHoles_any ps v _ HO.out.reads (by omega)).mono ?_
    rintro e w2 ⟨rfl, hb2⟩
    rw [HC.out]
    have HB2 := Lib.hid (HB1.out.trans (hb2.mono HB1.out.size))
    have HO2 := Lib.hid (HO.out.below hb2)
    clear hb2 HO
    by_cases h3 : c ≤ 3
    · have h3i : (c : Int) ≤ 3 := by omega
      have H3 := Lib.hid h3
      clear h3
      go_wp2_with fail
      refine (iValidText_any t _ ht).mono ?_
      rintro e w3 ⟨rfl, hb3⟩
      have HB3 := Lib.hid (HB2.out.trans (hb3.mono HB2.out.size))
      have HO3 := Lib.hid (HO2.out.below hb3)
      clear hb3 HO2
      cases hv : pl.validT t.data.toList with
      | false =>
        have HE : Hid (pl.matchR s t = none) := Lib.hid (pl.matchR_bad HY.out (fun h => by rw [hv] at h; cases h.2))
        clear hv
        go_wp2_with fail
        go_ret2
        exact MFPost.none HE.out HB3.out
      | true =>
        have h120 := pl.validT_size hv
        have HE : Hid (pl.matchR s t = (pl.matchT (pl.flatP ps) [] t.data.toList).map pl.toPc) := Lib.hid (pl.matchR_ok HY.out (by rw [HC.out]; exact H3.out) hv)
        clear hv
        go_wp2_with fail
        have HM0 : Hid (MapV w3.heap.size 0 (w3.alloc (.map #[] 0)) (pl.lookL [])) := Lib.hid ((MapV.made w3).congr' (fun k => rfl))
        have hbA : Below w3.heap.size w3 (w3.alloc (.map #[] 0)) := (Below.refl _ _).alloc (Nat.le_refl _) _
        have HBA := Lib.hid (HB3.out.trans (hbA.mono HB3.out.size))
        have HOA := Lib.hid (HO3.out.away (b := w3.heap.size) (Nat.le_refl _))
        have HPA := Lib.hid (HOA.out.below (Nat.le_refl _) hbA)
        obtain ⟨wA, HWA⟩ : ∃ x, Hid (w3.alloc (.map #[] 0) = x) := ⟨_, Lib.hid rfl⟩
        obtain ⟨b, HBB⟩ : ∃ b, Hid (w3.heap.size = b) := ⟨_, Lib.hid rfl⟩
        have hwb : Hid (w.heap.size ≤ b) := Lib.hid (by rw [← HBB.out]; exact HB3.out.size)
        rw [HWA.out, HBB.out] at HM0 HPA
        rw [HWA.out] at HBA
        rw [HWA.out, HBB.out]
        clear hbA HOA HO3
        refine (match_any b ps 0 v t [] _ HPA.out HM0.out HK.out hl (by omega) h120).mono ?_
        rintro e w4 ⟨hg4, hres⟩
        have HB4 := Lib.hid (HBA.out.grown hg4 HBA.out.size (fun k hk => by cases hk; exact hwb.out))
        have HP4 := Lib.hid (HPA.out.grown hg4)
        clear hg4
        rcases hres with ⟨gs, hgs, rfl, hmv⟩ | ⟨hgs, rfl, _⟩
        · have HG := Lib.hid hgs
          have HMV := Lib.hid hmv
          have HR : Hid (pl.matchR s t = some (pl.toPc gs)) := Lib.hid (by rw [HE.out, hgs]; rfl)
          have HAT := Lib.hid (pl.match_at hgs)
          clear hgs hmv
          go_wp2_with fail
          refine (namesOf_any ps v _ HP4.out.reads (by omega)).mono ?_
          rintro e w5 ⟨nv, rfl, ho5, hb5⟩
          have HB5 := Lib.hid (HB4.out.trans (hb5.mono HB4.out.size))
          have HM5 := Lib.hid (HMV.out.below hb5 (Nat.le_refl _))
          have HRN := Lib.hid ho5.reads
          obtain ⟨N, HNN⟩ : ∃ N, Hid ((pl.holesD (pl.flatP ps)).map pl.bs = N) := ⟨_, Lib.hid rfl⟩
          have HNS : Hid (∀ i, i < N.length → (nth N i).size ≤ maxLen) := Lib.hid (fun i hi => by
            have hm : nth N i ∈ pl.holesR s := by rw [pl.holesR_yes HY.out, HNN.out, nth_eq hi]; exact List.getElem_mem hi
            have := (pl.nameB_parts (pl.holes_named HY.out _ hm)).2.1
            rw [pl.len_eq] at this
            unfold maxLen; omega)
          obtain ⟨F, HF⟩ : ∃ F, Hid (pl.toPc gs = F) := ⟨_, Lib.hid rfl⟩
          have HFL : Hid (F.length = N.length) := Lib.hid (by rw [← HF.out, ← HNN.out, pl.toPc_len, List.length_map]; exact HAT.out.1)
          have HFA : Hid (∀ k, k < F.length → F[k]? = some (nth N k, (pl.nthQ F k).2) ∧ pl.lookL gs (nth N k).data.toList = some (pl.nthQ F k).2.data.toList) := Lib.hid (fun k hk => by
            have := HAT.out.2 k (by rw [← pl.toPc_len, HF.out]; exact hk)
            rw [HF.out, HNN.out] at this
            exact this)
          have hN5 : N.length ≤ 120 := by
            have h1 := H3.out
            have h2 := pl.ded_len (pl.holesT (pl.flatP ps)) []
            rw [← HNN.out, List.length_map]
            show (pl.ded [] (pl.holesT (pl.flatP ps))).length ≤ 120
            rw [HC.out] at h2
            simp at h2; omega
          rw [HNN.out] at HRN ho5
          rw [HF.out] at HR
          obtain ⟨an, cn, rfl⟩ := HRN.out.slice
          obtain ⟨n, HN⟩ : ∃ n, Hid (n = N.length) := ⟨_, Lib.hid rfl⟩
          rw [← HN.out] at HRN hN5 ⊢
          clear ho5 hb5 HP4 HPA
          obtain ⟨E, HEE⟩ : ∃ E, Hid (w5.heap.size = E) := ⟨_, Lib.hid rfl⟩
          have hbE : b < E := by rw [← HEE.out]; exact HM5.out.lt
          have hE5 : E ≤ w5.heap.size := Nat.le_of_eq HEE.out.symm
          go_wp2_with fail
          go_loopw [9, 38] (fun fv iv wr => RdMF F n E w5 fv iv wr) (fun _ iv _ => n - (intOf iv).toNat)
          case atStart => exact ⟨0, Nat.zero_le _, rfl, Lib.hid (OFi.nil _ _), Lib.hid (Below.refl _ _)⟩
          case round =>
            obtain ⟨k, hk, rfl, HO, HB⟩ := hrel
            have hEr : E ≤ wr.heap.size := Nat.le_trans hE5 HB.out.size
            by_cases hlt : k < n
            · have hBw : Below w5.heap.size w5 wr := by rw [HEE.out]; exact HB.out
              obtain ⟨b2, o2, rfl, hc⟩ := HRN.out.at HN.out hBw hlt
              have hkF : k < F.length := by rw [HFL.out, ← HN.out]; exact hlt
              obtain ⟨hF1, hF2⟩ := HFA.out k hkF
              have hns := HNS.out k (by rw [← HN.out]; exact hlt)
              obtain ⟨nm, HNM⟩ : ∃ nm, Hid (nth N k = nm) := ⟨_, Lib.hid rfl⟩
              obtain ⟨y, HY2⟩ : ∃ y, Hid ((pl.nthQ F k).2 = y) := ⟨_, Lib.hid rfl⟩
              rw [HNM.out] at hc hF1 hF2 hns
              rw [HY2.out] at hF1 hF2
              have hrun := (HM5.out.below hBw (Nat.le_refl _)).get nm hns y hF2
              have HTK : Hid (F.take (k + 1) = F.take k ++ [(nm, y)]) := Lib.hid (by
                rw [List.take_add_one, hF1]; rfl)
              obtain ⟨L, HL⟩ : ∃ L, Hid (F.take k = L) := ⟨_, Lib.hid rfl⟩
              have hll : L.length ≤ 120 := by rw [← HL.out, List.length_take]; omega
              rw [HL.out] at HO HTK
              clear hF1 hF2 hkF hBw hns
              go_wp2_with (at_builtin; refine wpList_append_own _ rfl _ _ 38 rfl E 87 i0 (.agg #[.string ByteArray.empty, .string ByteArray.empty]) 2 32 Try.underlying38 hi hz0 hz1 hz2 rfl (by decide) _ _ _ rfl (World.ownsRow.alloc HO.out _) ⟨wr.heap.size, 0, none⟩ 1 1 [.string nm, .string y] rfl rfl (fun k u hu => by have h := cell_two_new wr (.string nm) (.string y) 87 k u hu; simpa using h) (by intro u hu; simp at hu; rcases hu with h | h <;> subst h <;> rfl) (by unfold maxLen; omega) (by omega) (by simp; omega) ?_)
              intro vE wE hown hgrow _
              have HOE : Hid (OFi E wE vE (L ++ [(nm, y)])) := Lib.hid (OFi.push hown)
              have HBE := Lib.hid ((HB.out.alloc hEr _).grown hgrow (by simp; omega) (fun k hk => (World.ownsRow.lt HO.out k hk).1))
              rw [← HTK.out] at HOE
              clear hown hgrow hc hrun
              go_wp2
              go_roundw
              case rel => exact ⟨k + 1, by omega, by go_num, HOE, HBE⟩
              case measure => simp [intOf]; omega
            · obtain rfl : k = n := by omega
              have HTA : Hid (F.take k = F) := Lib.hid (List.take_of_length_le (by rw [HFL.out, ← HN.out]; exact Nat.le_refl _))
              rw [HTA.out] at HO
              have HBF := Lib.hid (HB5.out.trans (HB.out.mono (by have := HB5.out.size; have := HEE.out; omega)))
              have HOF := Lib.hid (HO.out.mono (show w.heap.size ≤ E from by have := HB5.out.size; have := HEE.out; omega))
              go_wp2_with fail
              go_ret2
              exact MFPost.some HR.out HOF.out HBF.out
        · have HN : Hid (pl.matchR s t = none) := Lib.hid (by rw [HE.out, hgs]; rfl)
          clear hgs
          go_wp2_with fail
          go_ret2
          exact MFPost.none HN.out HB4.out
    · have h3i : 3 < (c : Int) := by omega
      have HE : Hid (pl.matchR s t = none) := Lib.hid (pl.matchR_bad HY.out (fun h => h3 (by rw [← HC.out]; exact h.1)))
      clear h3
      go_wp2_with fail
      go_ret2
      exact MFPost.none HE.out HB2.out
end Go.Proofs.Ytadlelcckalcoaa
