/- Contract: the model's EvenWrap. -/
import Derived.Test.YtfajllfedhifkaaCostsS
import Derived.Test.YtfajllfedhifkaaEvenW
import Derived.Test.YtfajllfedhifkaaWrapS
namespace Go.Proofs.Ytfajllfedhifkaa
open Go.RowKit
set_option maxRecDepth 100000

namespace pl
def EvIn (wd : Int) (l : List ByteArray) (i k B : Nat) : Prop :=
  (∀ t, B < t → i < t → t < k → fitL wd (pc l i t) = true → vL wd (l.drop i) (t - i) ≠ lF wd (l.drop i)) ∧ (B = 0 ∨ (i < B ∧ B < k ∧ fitL wd (pc l i B) = true ∧ vL wd (l.drop i) (B - i) = lF wd (l.drop i)))
theorem vL_at {wd : Int} {l : List ByteArray} {i k : Nat} (hk : i < k) (hk2 : k ≤ l.length) : vL wd (l.drop i) (k - i) = if k = l.length then 0 else lF wd (l.drop k) + sqL wd (pc l i k) := by
  unfold vL
  rw [List.length_drop, List.drop_drop, show i + (k - i) = k by omega]
  by_cases e : k = l.length
  · rw [if_pos e, if_pos (by omega)]
  · rw [if_neg e, if_neg (by omega)]; rfl
theorem evin_start (wd : Int) (l : List ByteArray) (i : Nat) : EvIn wd l i (i + 1) 0 := ⟨fun t _ h2 h3 => by omega, .inl rfl⟩
theorem evin_yes {wd : Int} {l : List ByteArray} {i k : Nat} (hk : i < k) (hf : fitL wd (pc l i k) = true) (hv : vL wd (l.drop i) (k - i) = lF wd (l.drop i)) : EvIn wd l i (k + 1) k :=
  ⟨fun t h1 _ h3 => by omega, .inr ⟨hk, by omega, hf, hv⟩⟩
theorem evin_no {wd : Int} {l : List ByteArray} {i k B : Nat} (h : EvIn wd l i k B) (hv : vL wd (l.drop i) (k - i) ≠ lF wd (l.drop i)) : EvIn wd l i (k + 1) B := by
  refine ⟨fun t h1 h2 h3 h4 => ?_, ?_⟩
  · by_cases e : t = k
    · subst e; exact hv
    · exact h.1 t h1 h2 (by omega) h4
  · rcases h.2 with h0 | ⟨h1, h2, h3⟩
    · exact .inl h0
    · exact .inr ⟨h1, by omega, h3⟩
theorem pc_ext {l : List ByteArray} {i k t : Nat} (hik : i ≤ k) (h : k ≤ t) : ∃ x, pc l i t = pc l i k ++ x := by
  refine ⟨((l.drop i).drop (k - i)).take (t - k), ?_⟩
  unfold pc
  rw [show t - i = (k - i) + (t - k) by omega, List.take_add]
theorem evin_done {wd : Int} {l : List ByteArray} {i k B : Nat} (h : EvIn wd l i k B) (hi : i < l.length) (hall : allFit wd l) (hik : i < k) (hk : k ≤ l.length + 1) (he : k = l.length + 1 ∨ fitL wd (pc l i k) = false) :
    i < B ∧ B ≤ l.length ∧ ∀ e, Best wd (l.drop B) e → Best wd (l.drop i) (pc l i B :: e) := by
  have hnf : ∀ t, k ≤ t → t ≤ l.length → fitL wd (pc l i t) = false := by
    intro t h1 h2
    rcases he with he | he
    · omega
    · obtain ⟨x, hx⟩ := pc_ext (l := l) (i := i) (by omega : i ≤ k) h1
      rw [hx]; exact fitL_app he x
  have hne : ∀ t, B < t → i < t → t ≤ l.length → fitL wd (pc l i t) = true → vL wd (l.drop i) (t - i) ≠ lF wd (l.drop i) := by
    intro t h1 h2 h3 h4
    rcases Nat.lt_or_ge t k with h5 | h5
    · exact h.1 t h1 h2 h5 h4
    · rw [hnf t h5 h3] at h4; cases h4
  rcases h.2 with h0 | ⟨h1, h2, h3, h4⟩
  · exfalso
    have hm : l.drop i ≠ [] := by
      intro e
      have := congrArg List.length e
      rw [List.length_drop, List.length_nil] at this; omega
    obtain ⟨j, hj0, hj1, hj2, hj3⟩ := best_there (allFit_drop hall i) hm
    rw [List.length_drop] at hj1
    have e2 : pc l i (i + j) = (l.drop i).take j := by unfold pc; rw [show i + j - i = j by omega]
    have := hne (i + j) (by omega) (by omega) (by omega) (by rw [e2]; exact hj2)
    rw [show i + j - i = j by omega] at this
    exact this hj3
  · refine ⟨h1, by omega, fun e hb => ?_⟩
    refine best_step (allFit_drop hall i) (j := B - i) (by omega) (by rw [List.length_drop]; omega) h3 h4 ?_ ?_
    · intro t ht1 ht2 ht3
      rw [List.length_drop] at ht2
      have := hne (i + t) (by omega) (by omega) (by omega) (by unfold pc; rw [show i + t - i = t by omega]; exact ht3)
      rwa [show i + t - i = t by omega] at this
    · rw [List.drop_drop, show i + (B - i) = B by omega]; exact hb
def EvOut (wd : Int) (l : List ByteArray) (i : Nat) (d : Gs) : Prop := ∀ e, Best wd (l.drop i) e → Best wd l (d ++ e)
theorem evout_start (wd : Int) (l : List ByteArray) : EvOut wd l 0 [] := fun e h => by simpa using h
theorem evout_step {wd : Int} {l : List ByteArray} {i B : Nat} {d : Gs} (h : EvOut wd l i d) (hb : ∀ e, Best wd (l.drop B) e → Best wd (l.drop i) (pc l i B :: e)) : EvOut wd l B (d ++ [pc l i B]) := fun e he => by
  have := h _ (hb e he)
  simpa using this
theorem evout_done {wd : Int} {l : List ByteArray} {d : Gs} (h : EvOut wd l l.length d) (hf : fitA l wd = true) : evenR l wd = d.map jline := by
  have := h [] (by rw [drop_end]; exact best_nil wd)
  rw [List.append_nil] at this
  exact evenR_yes hf this
end pl

set_option maxHeartbeats 4000000 in
theorem seven_any (l : List ByteArray) (wd : Int) (v : Value) (w : World) (hl : LStrs w v l) (hlen : l.length ≤ maxLen) (hsz : ∀ i, i < l.length → (nth l i).size ≤ maxLen) (hfit : pl.fitA l wd = true) :
    Calls Try.prog 67 #[v, .int .i64 wd] w fun e w' => ∃ v', e = .returned v' ∧ OStrs w.heap.size w' v' (pl.evenR l wd) ∧ Below w.heap.size w w' := by
  obtain ⟨i0, hi, hz0, hz1, hz2⟩ := info_parts infoS
  have HFT := Lib.hid hfit
  have hp := pl.fitA_parts hfit
  have H12 := Lib.hid (pl.words_12 hp.2.1)
  have hwd := hp.2.2
  have hall := Lib.hid (pl.allFit_of (pl.shortAll_yes hp.1))
  have HL := Lib.hid hl
  obtain ⟨hr, a0, cap0, rfl, hcap⟩ := hl
  obtain ⟨N, hN⟩ : ∃ N, N = l.length := ⟨_, rfl⟩
  have h9 : N ≤ 9 := by rw [hN]; exact (pl.vWords_parts hp.2.1).1
  have HN := Lib.hid hN
  have HLn := Lib.hid hlen
  have HSZ := Lib.hid hsz
  have HR : Hid (RStrs w (.slice a0 N cap0) l) := Lib.hid (by rw [hN]; exact hr)
  have hlb : Hid (∀ t, 0 ≤ pl.lF wd (l.drop t) ∧ pl.lF wd (l.drop t) ≤ 129600) := Lib.hid (fun t => pl.lF_bound hwd.2 (by rw [List.length_drop, ← HN.out]; omega) (pl.allFit_drop hall.out t))
  clear hr hlen hsz hp hfit
  go_enter Try.func67, Try.ntmps67
  go_wp2_with fail
  refine (leastCosts_any l wd _ _ HL.out HLn.out HSZ.out HFT.out).mono ?_
  rintro e w1 ⟨g, zs, rfl, hoz, hcs, hb1⟩
  rw [← hN] at hoz hcap ⊢
  have HOZ := Lib.hid hoz
  have HCS := Lib.hid hcs
  have HB1 := Lib.hid hb1
  clear hoz hcs hb1 hN HL
  go_wp2_with fail
  go_loopw [6, 8] (fun ov iv wr => ∃ (i : Nat) (d : pl.Gs), i ≤ N ∧ iv = .int .i64 i ∧ Hid (pl.EvOut wd l i d) ∧ Hid (d.length ≤ i) ∧ OStrs w1.heap.size wr ov (d.map pl.jline) ∧ Below w1.heap.size w1 wr) (fun _ iv _ => N - (intOf iv).toNat)
  case atStart => exact ⟨0, [], Nat.zero_le _, rfl, Lib.hid (pl.evout_start wd l), Lib.hid (Nat.le_refl _), World.ownsRow_made _ _ _ (Nat.le_refl _) (by unfold maxLen; omega) rfl, (Below.refl _ _).alloc (Nat.le_refl _) _⟩
  case round =>
    obtain ⟨i, d, hiN, rfl, hev, hdl, hown, hbel⟩ := hrel
    by_cases hlt : i < N
    · have hilt : (i : Int) < (N : Int) := by omega
      have hbw := Lib.hid (HB1.out.trans (hbel.mono HB1.out.size))
      obtain ⟨b1, o1, rfl, _⟩ := HR.out.at HN.out hbw.out (k := i) hlt
      obtain ⟨W0, rfl⟩ : ∃ W0, W0 = wr := ⟨_, rfl⟩
      have HOW := Lib.hid hown
      have HBL := Lib.hid hbel
      obtain ⟨F0, hF0⟩ : ∃ F, Hid (pl.lF wd (l.drop i) = F) := ⟨_, Lib.hid rfl⟩
      clear hown hbel
      go_wp2_with fail
      go_loopw [9, 10] (fun bv kv wr => ∃ (k B : Nat), i + 1 ≤ k ∧ k ≤ N + 1 ∧ B ≤ N ∧ bv = .int .i64 B ∧ kv = .int .i64 k ∧ Hid (pl.EvIn wd l i k B) ∧ Below W0.heap.size W0 wr) (fun _ kv _ => N + 1 - (intOf kv).toNat)
      case atStart => exact ⟨i + 1, 0, Nat.le_refl _, by omega, Nat.zero_le _, rfl, by go_num, Lib.hid (pl.evin_start wd l i), Below.refl _ _⟩
      case round =>
        obtain ⟨k, B, hk1, hk2, hBN, rfl, rfl, hin2, hbel2⟩ := hrel
        have hbw2 := Lib.hid (hbw.out.trans (hbel2.mono hbw.out.size))
        by_cases hkN : k ≤ N
        · have hRS := Lib.hid (RStrs.sub (c := cap0 - i) (HR.out.below (Nat.le_refl _) hbw2.out) HN.out (show i < k by omega) hkN)
          obtain ⟨J, hJ⟩ : ∃ J, Hid (pl.joinB (pl.pc l i k) ⟨#[32]⟩ = J) := ⟨_, Lib.hid rfl⟩
          have hJs : Hid (J.size = pl.szJ (pl.pc l i k)) := Lib.hid (by rw [← hJ.out]; rfl)
          have hJb : J.size ≤ 117 := by rw [hJs.out]; have := pl.szJ_pc (l := l) (i := i) (k := k) H12.out; have := HN.out; omega
          by_cases hlong : wd < (J.size : Int)
          · have hf : Hid (pl.fitL wd (pl.pc l i k) = false) := Lib.hid (by unfold pl.fitL; rw [← hJs.out]; exact decide_eq_false (by omega))
            have hdn := Lib.hid (pl.evin_done hin2.out (by rw [← HN.out]; exact hlt) hall.out (by omega) (by rw [← HN.out]; omega) (.inr hf.out))
            obtain ⟨hiB, hBl, hbest⟩ := hdn.out
            have hev2 := Lib.hid (pl.evout_step hev.out hbest)
            have hRB := Lib.hid (RStrs.sub (c := cap0 - i) (HR.out.below (Nat.le_refl _) hbw2.out) HN.out hiB hBN)
            obtain ⟨JB, hJB⟩ : ∃ J, Hid (pl.joinB (pl.pc l i B) ⟨#[32]⟩ = J) := ⟨_, Lib.hid rfl⟩
            have hJBb : JB.size ≤ 117 := by rw [← hJB.out, show (pl.joinB (pl.pc l i B) ⟨#[32]⟩).size = pl.szJ (pl.pc l i B) from rfl]; have := pl.szJ_pc (l := l) (i := i) (k := B) H12.out; have := HN.out; omega
            have hown := HOW.out.below (Nat.le_refl _) hbel2
            have hbz := HBL.out.trans (hbel2.mono HBL.out.size)
            obtain ⟨D, hD⟩ : ∃ D, Hid (d.map pl.jline = D) := ⟨_, Lib.hid rfl⟩
            rw [hD.out] at hown
            have hdl2 : D.length ≤ 9 := by rw [← hD.out, List.length_map]; have := hdl.out; omega
            have hdl3 : Hid ((d ++ [pl.pc l i B]).length ≤ B) := Lib.hid (by rw [List.length_append]; have := hdl.out; simp; omega)
            have hcB : B ≤ cap0 := by omega
            clear hbest hBl
            go_wp2_with fail
            refine (sjoin_any (pl.pc l i k) ⟨#[32]⟩ _ _ hRS.out (by rw [pl.pc_len (by rw [← HN.out]; exact hkN)]; omega) (by rw [hJ.out]; omega)).mono ?_
            rintro e w' ⟨rfl, rfl⟩
            rw [hJ.out]
            go_wp2_with fail
            refine (sjoin_any (pl.pc l i B) ⟨#[32]⟩ _ _ hRB.out (by rw [pl.pc_len (by rw [← HN.out]; exact hBN)]; omega) (by rw [hJB.out]; omega)).mono ?_
            rintro e w' ⟨rfl, rfl⟩
            rw [hJB.out]
            go_wp2_with (at_builtin; refine wpList_append_own _ rfl _ _ 23 rfl w1.heap.size 9 i0 (.string ByteArray.empty) 1 16 Try.underlying23 hi hz0 hz1 hz2 rfl (by decide) _ _ _ rfl (World.ownsRow.alloc hown _) ⟨wr.heap.size, 0, none⟩ 1 1 [.string JB] rfl rfl ?c1 ?c2 ?c3 ?c4 ?c5 ?_)
            case c1 => exact cell_one_new _ _ _
            case c2 => intro u hu; simp at hu; subst hu; rfl
            case c3 => unfold maxLen; omega
            case c4 => omega
            case c5 => have := hbz.size; simp; omega
            intro v' w2 hown' hgrow _
            have hb2 : Below w1.heap.size w1 w2 := (hbz.alloc hbz.size _).grown hgrow (by have := hbz.size; simp; omega) (fun g hg => (World.ownsRow.lt hown g hg).1)
            have hown2 := OStrs.push1 hown'
            have hmap : D ++ [JB] = (d ++ [pl.pc l i B]).map pl.jline := by rw [List.map_append, ← hJB.out, hD.out]; rfl
            rw [hmap] at hown2
            clear hown' hgrow hown hbz hmap
            go_wp2_with fail
            go_roundw
            case rel => exact ⟨B, _, hBN, rfl, hev2, hdl3, hown2, hb2⟩
            case measure => simp [intOf]; omega
          · have hf : Hid (pl.fitL wd (pl.pc l i k) = true) := Lib.hid (by unfold pl.fitL; rw [← hJs.out]; exact decide_eq_true (by omega))
            obtain ⟨F, hF⟩ : ∃ F, Hid (pl.lF wd (l.drop k) = F) := ⟨_, Lib.hid rfl⟩
            have hFb : 0 ≤ F ∧ F ≤ 129600 := by rw [← hF.out]; exact hlb.out k
            obtain ⟨m, hm⟩ : ∃ m : Int, wd - (J.size : Int) = m := ⟨_, rfl⟩
            have hmb := pl.miss_bound (wd := wd) (a := (J.size : Int)) (by omega) (by omega) hwd.2
            rw [hm] at hmb
            obtain ⟨S, hS⟩ : ∃ S, m * m = S := ⟨_, rfl⟩
            rw [hS] at hmb
            have HS := Lib.hid hS
            have HM := Lib.hid hm
            clear hS
            have hsq : Hid (pl.sqL wd (pl.pc l i k) = S) := Lib.hid (by unfold pl.sqL; rw [← hJs.out, HM.out, HS.out])
            have hbz := HBL.out.trans (hbel2.mono HBL.out.size)
            have hoz := ints_below HOZ.out (Nat.le_refl _) hbz
            have ci : wr.cell? ⟨g, i, none⟩ = some (.int .i64 F0) := by
              rw [← hF0.out]
              exact ints_cell hoz (j := i) (by omega) (HCS.out.2 i (by omega) (by rw [← HN.out]; omega))
            have ck : wr.cell? ⟨g, k, none⟩ = some (.int .i64 F) := by
              rw [← hF.out]
              exact ints_cell hoz (j := k) (by omega) (HCS.out.2 k (by omega) (by rw [← HN.out]; exact hkN))
            have hiN1 : (i : Int) < (N : Int) + 1 := by omega
            have hkN1 : (k : Int) < (N : Int) + 1 := by omega
            have hvl := pl.vL_at (wd := wd) (l := l) (i := i) (k := k) (by omega) (by rw [← HN.out]; exact hkN)
            rw [hsq.out, hF.out, ← HN.out] at hvl
            have HVL := Lib.hid hvl
            clear hoz hbz hvl
            go_wp2_with fail
            refine (sjoin_any (pl.pc l i k) ⟨#[32]⟩ _ _ hRS.out (by rw [pl.pc_len (by rw [← HN.out]; exact hkN)]; omega) (by rw [hJ.out]; omega)).mono ?_
            rintro e w' ⟨rfl, rfl⟩
            rw [hJ.out]
            go_wp2_with fail
            go_quiet ((go_at_call 84; exact square_q _ m S (by omega) HS.out (by omega) _ _))
            have ciD : (wr.drewN nq).cell? ⟨g, i, none⟩ = some (.int .i64 F0) := ci
            have hbD : Hid (Below W0.heap.size W0 (wr.drewN nq)) := Lib.hid (hbel2.trans below_drewN)
            clear hbel2 ci ck hRS
            generalize wr.drewN nq = w2 at hbD ciD ⊢
            by_cases hkn : k = N
            · subst hkn
              have hvC : Hid (pl.vL wd (l.drop i) (k - i) = (0 : Int)) := Lib.hid (by rw [HVL.out]; rw [if_pos rfl])
              by_cases hc : (0 : Int) = F0
              · have hc2 : Hid (pl.vL wd (l.drop i) (k - i) = pl.lF wd (l.drop i)) := Lib.hid (by rw [hvC.out, hF0.out, hc])
                have HI := Lib.hid (pl.evin_yes (by omega) hf.out hc2.out)
                go_wp2_with fail
                go_roundw
                case rel => exact ⟨_, k, by omega, by omega, by omega, by first | rfl | go_num, by go_num, HI, hbD.out⟩
                case measure => first | (simp [intOf]; done) | (simp [intOf]; omega)
              · have hc2 : Hid (pl.vL wd (l.drop i) (k - i) ≠ pl.lF wd (l.drop i)) := Lib.hid (by rw [hvC.out, hF0.out]; exact hc)
                have HI := Lib.hid (pl.evin_no hin2.out hc2.out)
                go_wp2_with fail
                go_roundw
                case rel => exact ⟨_, B, by omega, by omega, by omega, by first | rfl | go_num, by go_num, HI, hbD.out⟩
                case measure => first | (simp [intOf]; done) | (simp [intOf]; omega)
            · have hne : ¬ (k : Int) = (N : Int) := by omega
              have hvC : Hid (pl.vL wd (l.drop i) (k - i) = F + S) := Lib.hid (by rw [HVL.out]; rw [if_neg hkn])
              by_cases hc : F + S = F0
              · have hc2 : Hid (pl.vL wd (l.drop i) (k - i) = pl.lF wd (l.drop i)) := Lib.hid (by rw [hvC.out, hF0.out, hc])
                have HI := Lib.hid (pl.evin_yes (by omega) hf.out hc2.out)
                go_wp2_with fail
                go_roundw
                case rel => exact ⟨_, k, by omega, by omega, by omega, by first | rfl | go_num, by go_num, HI, hbD.out⟩
                case measure => first | (simp [intOf]; done) | (simp [intOf]; omega)
              · have hc2 : Hid (pl.vL wd (l.drop i) (k - i) ≠ pl.lF wd (l.drop i)) := Lib.hid (by rw [hvC.out, hF0.out]; exact hc)
                have HI := Lib.hid (pl.evin_no hin2.out hc2.out)
                go_wp2_with fail
                go_roundw
                case rel => exact ⟨_, B, by omega, by omega, by omega, by first | rfl | go_num, by go_num, HI, hbD.out⟩
                case measure => first | (simp [intOf]; done) | (simp [intOf]; omega)
        · obtain rfl : k = N + 1 := by omega
          have hdn := Lib.hid (pl.evin_done hin2.out (by rw [← HN.out]; exact hlt) hall.out (by omega) (by rw [← HN.out]; omega) (.inl (by rw [HN.out])))
          obtain ⟨hiB, hBl, hbest⟩ := hdn.out
          have hev2 := Lib.hid (pl.evout_step hev.out hbest)
          have hRB := Lib.hid (RStrs.sub (c := cap0 - i) (HR.out.below (Nat.le_refl _) hbw2.out) HN.out hiB hBN)
          obtain ⟨JB, hJB⟩ : ∃ J, Hid (pl.joinB (pl.pc l i B) ⟨#[32]⟩ = J) := ⟨_, Lib.hid rfl⟩
          have hJBb : JB.size ≤ 117 := by rw [← hJB.out, show (pl.joinB (pl.pc l i B) ⟨#[32]⟩).size = pl.szJ (pl.pc l i B) from rfl]; have := pl.szJ_pc (l := l) (i := i) (k := B) H12.out; have := HN.out; omega
          have hown := HOW.out.below (Nat.le_refl _) hbel2
          have hbz := HBL.out.trans (hbel2.mono HBL.out.size)
          obtain ⟨D, hD⟩ : ∃ D, Hid (d.map pl.jline = D) := ⟨_, Lib.hid rfl⟩
          rw [hD.out] at hown
          have hdl2 : D.length ≤ 9 := by rw [← hD.out, List.length_map]; have := hdl.out; omega
          have hdl3 : Hid ((d ++ [pl.pc l i B]).length ≤ B) := Lib.hid (by rw [List.length_append]; have := hdl.out; simp; omega)
          have hcB : B ≤ cap0 := by omega
          clear hbest hBl
          go_wp2_with fail
          refine (sjoin_any (pl.pc l i B) ⟨#[32]⟩ _ _ hRB.out (by rw [pl.pc_len (by rw [← HN.out]; exact hBN)]; omega) (by rw [hJB.out]; omega)).mono ?_
          rintro e w' ⟨rfl, rfl⟩
          rw [hJB.out]
          go_wp2_with (at_builtin; refine wpList_append_own _ rfl _ _ 23 rfl w1.heap.size 9 i0 (.string ByteArray.empty) 1 16 Try.underlying23 hi hz0 hz1 hz2 rfl (by decide) _ _ _ rfl (World.ownsRow.alloc hown _) ⟨wr.heap.size, 0, none⟩ 1 1 [.string JB] rfl rfl ?c1 ?c2 ?c3 ?c4 ?c5 ?_)
          case c1 => exact cell_one_new _ _ _
          case c2 => intro u hu; simp at hu; subst hu; rfl
          case c3 => unfold maxLen; omega
          case c4 => omega
          case c5 => have := hbz.size; simp; omega
          intro v' w2 hown' hgrow _
          have hb2 : Below w1.heap.size w1 w2 := (hbz.alloc hbz.size _).grown hgrow (by have := hbz.size; simp; omega) (fun g hg => (World.ownsRow.lt hown g hg).1)
          have hown2 := OStrs.push1 hown'
          have hmap : D ++ [JB] = (d ++ [pl.pc l i B]).map pl.jline := by rw [List.map_append, ← hJB.out, hD.out]; rfl
          rw [hmap] at hown2
          clear hown' hgrow hown hbz hmap
          go_wp2_with fail
          go_roundw
          case rel => exact ⟨B, _, hBN, rfl, hev2, hdl3, hown2, hb2⟩
          case measure => simp [intOf]; omega
    · obtain rfl : i = N := by omega
      have he : Hid (d.map pl.jline = pl.evenR l wd) := Lib.hid (pl.evout_done (by rw [← HN.out]; exact hev.out) HFT.out).symm
      go_wp2_with fail
      go_ret
      exact ⟨_, rfl, by rw [← he.out]; exact hown.mono HB1.out.size, HB1.out.trans (hbel.mono HB1.out.size)⟩

theorem sEvenWrap_any (l : List ByteArray) (wd : Int) (v : Value) (w : World) (hl : LStrs w v l) (hlen : l.length ≤ maxLen) (hsz : ∀ i, i < l.length → (nth l i).size ≤ maxLen) :
    Calls Try.prog 28 #[v, .int .i64 wd] w fun e w' => ∃ v', e = .returned (.tuple #[v', .bool (pl.fitA l wd)]) ∧ OStrs w.heap.size w' v' (pl.evenR l wd) ∧ Below w.heap.size w w' := by
  by_cases hf : pl.fitA l wd = true
  · go_enter Try.func28, Try.ntmps28
    go_wp2_with fail
    refine (fitAll_any l wd v _ hl.1 hlen hsz).mono ?_
    rintro e w' ⟨rfl, rfl⟩
    rw [hf]
    go_wp2_with fail
    refine (seven_any l wd v _ hl hlen hsz hf).mono ?_
    rintro e w1 ⟨v1, rfl, ho, hb⟩
    go_wp2_with fail
    go_ret2
    exact ⟨_, by rw [hf]; rfl, ho, hb⟩
  · have hf' : pl.fitA l wd = false := by simpa using hf
    have hw := Lib.hid (pl.evenR_no hf')
    clear hf
    go_enter Try.func28, Try.ntmps28
    go_wp2_with fail
    refine (fitAll_any l wd v _ hl.1 hlen hsz).mono ?_
    rintro e w' ⟨rfl, rfl⟩
    rw [hf']
    go_wp2_with fail
    go_ret2
    exact ⟨_, by rw [hf']; rfl, by rw [hw.out]; exact OStrs.nil _ _, Below.refl _ _⟩
end Go.Proofs.Ytfajllfedhifkaa
