/- Contract: the model's UnflowLines. -/
import Derived.Test.YtoeejepamlnkkaaUnfl
import Derived.Test.YtoeejepamlnkkaaEq
namespace Go.Proofs.Ytoeejepamlnkkaa
open Go.RowKit
set_option maxRecDepth 100000

theorem two_made (w : World) : OPs w.heap.size ((w.alloc (.cells #[] 23)).alloc (.cells #[] 9)) (.slice (some ⟨w.heap.size, 0, none⟩) 0 0) [] [] ∧
    OStrs (w.heap.size + 1) ((w.alloc (.cells #[] 23)).alloc (.cells #[] 9)) (.slice (some ⟨w.heap.size + 1, 0, none⟩) 0 0) [] ∧ Below w.heap.size w ((w.alloc (.cells #[] 23)).alloc (.cells #[] 9)) ∧ w.heap.size + 1 ≤ ((w.alloc (.cells #[] 23)).alloc (.cells #[] 9)).heap.size := by
  have e : (w.alloc (.cells #[] 23)).heap.size = w.heap.size + 1 := by simp
  have h0 : OPs w.heap.size (w.alloc (.cells #[] 23)) (.slice (some ⟨w.heap.size, 0, none⟩) 0 0) [] [] := ⟨World.ownsRow_made _ _ _ (Nat.le_refl _) (by unfold maxLen; omega) rfl, Inn.nil _ _⟩
  obtain ⟨w1, hw⟩ : ∃ u, u = w.alloc (.cells #[] 23) := ⟨_, rfl⟩
  rw [← hw] at e h0 ⊢
  rw [← e]
  have hb : Below w.heap.size w w1 := by rw [hw]; exact (Below.refl _ _).alloc (Nat.le_refl _) _
  exact ⟨h0.below (Nat.le_refl _) ((Below.refl _ _).alloc (Nat.le_refl _) _), World.ownsRow_made _ _ _ (Nat.le_refl _) (by unfold maxLen; omega) rfl, hb.alloc hb.size _, by simp⟩

set_option maxHeartbeats 8000000 in
theorem sUnflow_ok (l : List ByteArray) (v : Value) (w : World) (hr : RStrs w v l) (hv : pl.validLs l = true) :
    Calls Try.prog 29 #[v] w fun e w' => ∃ v', e = .returned v' ∧ HPs w.heap.size w' v' (pl.unfl [] l) ∧ Below w.heap.size w w' := by
  obtain ⟨i0, hi, hz0, hz1, hz2⟩ := info_parts infoS
  obtain ⟨j0, hj, hy0, hy1, hy2⟩ := info_parts infoSS
  have h20 := pl.validLs_len hv
  have hs120 := Lib.hid (pl.validLs_size hv)
  have hval := Lib.hid (fun i (hi : i < l.length) => pl.wordsOf_ok (pl.validLs_nth hv hi))
  obtain ⟨n, hn⟩ : ∃ n, n = l.length := ⟨_, rfl⟩
  have HN := Lib.hid hn
  have hrr := Lib.hid hr
  have HV := Lib.hid hv
  obtain ⟨a0, cap0, rfl⟩ := hr.slice
  rw [← hn] at h20 hrr ⊢
  clear hn hr hv
  go_enter Try.func29, Try.ntmps29
  go_wp2_with fail
  refine (svalidLines_any l _ _ hrr.out (by unfold maxLen; rw [← HN.out]; omega) (fun i hi => Nat.le_trans (hs120.out i hi) (by unfold maxLen; omega))).mono ?_
  rintro e w' ⟨rfl, rfl⟩
  rw [HV.out]
  go_wp2_with fail
  obtain ⟨m1, m2, m3, m4⟩ := two_made w
  go_loopw [3, 4, 5] (fun pv qv iv wr => ∃ (k C : Nat) (us : List Value) (out : pl.Gs) (cur : List ByteArray), k ≤ n ∧ iv = .int .i64 k ∧ OPs w.heap.size wr pv us out ∧ OStrs C wr qv cur ∧ Hid (∀ i g, i < us.length → (nthV us i).ownBlock = some g → g < C) ∧ w.heap.size ≤ C ∧ C ≤ wr.heap.size ∧ Hid (pl.UInv l k out cur) ∧ Below w.heap.size w wr) (fun _ _ iv _ => n - (intOf iv).toNat)
  case atStart => exact ⟨0, w.heap.size + 1, [], [], [], Nat.zero_le _, rfl, m1, m2, Lib.hid (fun i g h => by simp at h), by omega, m4, Lib.hid (pl.uinv_zero l), m3⟩
  case round =>
    clear m1 m2 m3 m4
    obtain ⟨k, C, us, out, cur, hk, rfl, hps, hq, hC, hC1, hC2, hinv, hbel⟩ := hrel
    by_cases hlt : k < n
    · have hkl : Hid (k < l.length) := Lib.hid (by rw [← HN.out]; exact hlt)
      obtain ⟨b1, o1, rfl, hx⟩ := hrr.out.at HN.out hbel hlt
      have hxm := hs120.out k hkl.out
      have hwo := hval.out k hkl.out
      obtain ⟨x, HX⟩ : ∃ x, Hid (nth l k = x) := ⟨_, Lib.hid rfl⟩
      rw [HX.out] at hx hxm hwo
      have HWO := Lib.hid hwo.symm
      clear hwo
      have hlen1 : out.length ≤ 20 := by have := hinv.out.2.1; omega
      have hlen2 : cur.length ≤ 2400 := by have := hinv.out.2.2; omega
      have hwl := pl.wordsOf_len x
      have HPS := Lib.hid hps
      have HQ := Lib.hid hq
      have HB := Lib.hid hbel
      have hul : Hid (us.length = out.length) := Lib.hid hps.2.len
      clear hps hq hbel
      go_wp2_with fail
      refine (swords_any x _ hxm).mono ?_
      rintro e w2 ⟨vw, rfl, how, hbw⟩
      rw [HWO.out] at how
      have HPS2 := Lib.hid (HPS.out.below (Nat.le_refl _) hbw)
      have HQ2 := Lib.hid (HQ.out.below (Nat.le_refl _) hbw)
      have HB2 := Lib.hid (HB.out.trans (hbw.mono HB.out.size))
      have hC3 : C ≤ w2.heap.size := Nat.le_trans hC2 hbw.size
      clear hbw hx
      have how2 := how
      rcases how2.2 with ⟨rfl, hn0⟩ | ⟨g, cap, cu, rfl, hgB, hg, hle, hm, hs, htake⟩
      · have hW0 : Hid (pl.wordsOf x = []) := Lib.hid (List.length_eq_zero_iff.1 hn0)
        clear how how2 hn0
        have HPS3 := HPS2
        have HB3 := HB2
        have hC4 := hC3
        obtain ⟨w3, hw3⟩ : ∃ w3, w3 = w2 := ⟨_, rfl⟩
        subst hw3
        obtain ⟨a3, c3, hv3⟩ := HQ2.out.reads.slice
        obtain ⟨N3, HN3⟩ : ∃ N3, Hid (cur.length = N3) := ⟨_, Lib.hid rfl⟩
        rw [HN3.out] at hv3
        subst hv3
        have HQ3 : Hid (OStrs C w3 (.slice a3 N3 c3) (cur ++ pl.wordsOf x)) := Lib.hid (by rw [hW0.out, List.append_nil]; exact HQ2.out)
        obtain ⟨b3, o3, e3, hx3⟩ := hrr.out.at HN.out HB3.out hlt
        simp only [Option.some.injEq, Addr.mk.injEq, and_true] at e3
        obtain ⟨rfl, rfl⟩ := e3
        rw [HX.out] at hx3
        by_cases hz : x.size = 0
        · have hem : x.toList.isEmpty = true := pl.empty_of hz
          have hsp3 : Hid (pl.endSp x = false) := Lib.hid (pl.endSp_zero hz)
          clear hz
          go_wp2_with (at_builtin; refine wpList_append_own_none rfl _ _ 23 rfl C 9 i0 1 Try.underlying23 hi _ _ _ rfl HQ2.out rfl ?_)
          go_quiet (fail)
          obtain ⟨w5, HW5⟩ : ∃ u, Hid (w3.drewN nq = u) := ⟨_, Lib.hid rfl⟩
          have hb35 : Below w3.heap.size w3 w5 := by rw [← HW5.out]; exact below_drewN
          have HPS5 := Lib.hid (HPS3.out.below (Nat.le_refl _) hb35)
          have HQ5 := Lib.hid (HQ3.out.below (Nat.le_refl _) hb35)
          have HB5 := Lib.hid (HB3.out.trans (hb35.mono HB3.out.size))
          have hC5 : C ≤ w5.heap.size := Nat.le_trans hC4 hb35.size
          rw [HW5.out]
          clear hb35 hx3
          have hn2 := Lib.hid (pl.uinv_hard hinv.out hkl.out HX.out (.inr hsp3.out))
          go_wp2_with (at_builtin; refine wpList_append_own _ rfl _ _ 39 rfl w.heap.size 23 j0 (.slice none 0 0) 1 24 Try.underlying39 hj hy0 hy1 hy2 rfl (by decide) _ _ _ rfl (World.ownsRow.alloc HPS5.out.1 _) ⟨w5.heap.size, 0, none⟩ 1 1 [.slice a3 N3 c3] rfl rfl ?ka1 ?ka2 ?ka3 ?ka4 ?ka5 ?_)
          case ka1 => exact cell_one_new _ _ _
          case ka2 => intro u hu; simp at hu; subst hu; rfl
          case ka3 => have := hul.out; unfold maxLen; omega
          case ka4 => have := hul.out; omega
          case ka5 => have := HB5.out.size; simp; omega
          intro v4 w4 hown4 hgrow4 _
          have HP4 := Lib.hid (HPS5.out.pushed HQ5.out hC1 hC.out hown4 hgrow4)
          have HB4 := Lib.hid ((HB5.out.alloc HB5.out.size _).grown hgrow4 (by have := HB5.out.size; simp; omega) (fun g hg => (World.ownsRow.lt HPS5.out.1 g hg).1))
          clear hown4 hgrow4
          go_wp2
          go_roundw
          case rel => exact ⟨k + 1, w4.heap.size, _, _, [], by omega, by go_num, HP4.out.below (Nat.le_refl _) ((Below.refl _ _).alloc (Nat.le_refl _) _), World.ownsRow_made _ _ _ (Nat.le_refl _) (by unfold maxLen; omega) rfl, Lib.hid HP4.out.lt, HB4.out.size, by simp, hn2, HB4.out.alloc HB4.out.size _⟩
          case measure => simp [intOf]; omega
        · have hem : x.toList.isEmpty = false := pl.nonempty_of hz
          have hpos : 0 < x.size := by omega
          have hz1 : (0 : Int) ≤ (x.size : Int) - 1 := by omega
          have hz2 : (x.size : Int) - 1 < (x.size : Int) := by omega
          have hz3 : (1 : Int) ≤ (x.size : Int) := by omega
          have hz4 : x.size - 1 < x.size := by omega
          have hz5 : 1 ≤ x.size := by omega
          have hwr : IntKind.i64.wrap ((x.size : Int) - 1) = (x.size : Int) - 1 := by rw [IntKind.wrap_i64]; omega
          have htn : ((x.size : Int) - 1).toNat = x.size - 1 := by omega
          have hea := Lib.hid (pl.endSp_at hpos)
          by_cases h32 : x[x.size - 1] = 32
          · have hsp := Lib.hid (hea.out.trans (decide_eq_true h32))
            have h32i : ((x[x.size - 1].toNat : Int) == 32) = true := by rw [h32]; rfl
            clear h32 hz
            by_cases hlast : k + 1 = n
            · have hle : ((k : Int) + 1 == (n : Int)) = true := by simp; omega
              go_wp2_with (at_builtin; refine wpList_append_own_none rfl _ _ 23 rfl C 9 i0 1 Try.underlying23 hi _ _ _ rfl HQ2.out rfl ?_)
              go_quiet (fail)
              obtain ⟨w5, HW5⟩ : ∃ u, Hid (w3.drewN nq = u) := ⟨_, Lib.hid rfl⟩
              have hb35 : Below w3.heap.size w3 w5 := by rw [← HW5.out]; exact below_drewN
              have HPS5 := Lib.hid (HPS3.out.below (Nat.le_refl _) hb35)
              have HQ5 := Lib.hid (HQ3.out.below (Nat.le_refl _) hb35)
              have HB5 := Lib.hid (HB3.out.trans (hb35.mono HB3.out.size))
              have hC5 : C ≤ w5.heap.size := Nat.le_trans hC4 hb35.size
              rw [HW5.out]
              clear hb35 hx3
              clear hwr
              have hn2 := Lib.hid (pl.uinv_hard hinv.out hkl.out HX.out (.inl (by rw [← HN.out]; exact hlast)))
              go_wp2_with (at_builtin; refine wpList_append_own _ rfl _ _ 39 rfl w.heap.size 23 j0 (.slice none 0 0) 1 24 Try.underlying39 hj hy0 hy1 hy2 rfl (by decide) _ _ _ rfl (World.ownsRow.alloc HPS5.out.1 _) ⟨w5.heap.size, 0, none⟩ 1 1 [.slice a3 N3 c3] rfl rfl ?kb1 ?kb2 ?kb3 ?kb4 ?kb5 ?_)
              case kb1 => exact cell_one_new _ _ _
              case kb2 => intro u hu; simp at hu; subst hu; rfl
              case kb3 => have := hul.out; unfold maxLen; omega
              case kb4 => have := hul.out; omega
              case kb5 => have := HB5.out.size; simp; omega
              intro v4 w4 hown4 hgrow4 _
              have HP4 := Lib.hid (HPS5.out.pushed HQ5.out hC1 hC.out hown4 hgrow4)
              have HB4 := Lib.hid ((HB5.out.alloc HB5.out.size _).grown hgrow4 (by have := HB5.out.size; simp; omega) (fun g hg => (World.ownsRow.lt HPS5.out.1 g hg).1))
              clear hown4 hgrow4
              go_wp2
              go_roundw
              case rel => exact ⟨k + 1, w4.heap.size, _, _, [], by omega, by go_num, HP4.out.below (Nat.le_refl _) ((Below.refl _ _).alloc (Nat.le_refl _) _), World.ownsRow_made _ _ _ (Nat.le_refl _) (by unfold maxLen; omega) rfl, Lib.hid HP4.out.lt, HB4.out.size, by simp, hn2, HB4.out.alloc HB4.out.size _⟩
              case measure => simp [intOf]; omega
            · have hle : ((k : Int) + 1 == (n : Int)) = false := beq_eq_false_iff_ne.2 (by omega)
              have hn2 := Lib.hid (pl.uinv_soft hinv.out (by rw [← HN.out]; omega) HX.out hsp.out)
              go_wp2_with (at_builtin; refine wpList_append_own_none rfl _ _ 23 rfl C 9 i0 1 Try.underlying23 hi _ _ _ rfl HQ2.out rfl ?_)
              go_quiet (fail)
              obtain ⟨w5, HW5⟩ : ∃ u, Hid (w3.drewN nq = u) := ⟨_, Lib.hid rfl⟩
              have hb35 : Below w3.heap.size w3 w5 := by rw [← HW5.out]; exact below_drewN
              have HPS5 := Lib.hid (HPS3.out.below (Nat.le_refl _) hb35)
              have HQ5 := Lib.hid (HQ3.out.below (Nat.le_refl _) hb35)
              have HB5 := Lib.hid (HB3.out.trans (hb35.mono HB3.out.size))
              have hC5 : C ≤ w5.heap.size := Nat.le_trans hC4 hb35.size
              rw [HW5.out]
              clear hb35 hx3
              clear hwr
              go_wp2_with fail
              go_roundw
              case rel => exact ⟨k + 1, C, us, out, _, by omega, by go_num, HPS5.out, HQ5.out, hC, hC1, hC5, hn2, HB5.out⟩
              case measure => simp [intOf]; omega
          · have hsp := Lib.hid (hea.out.trans (decide_eq_false h32))
            have h32i : ((x[x.size - 1].toNat : Int) == 32) = false := beq_eq_false_iff_ne.2 (pl.byte_ne h32)
            clear h32 hz
            go_wp2_with (at_builtin; refine wpList_append_own_none rfl _ _ 23 rfl C 9 i0 1 Try.underlying23 hi _ _ _ rfl HQ2.out rfl ?_)
            go_quiet (fail)
            obtain ⟨w5, HW5⟩ : ∃ u, Hid (w3.drewN nq = u) := ⟨_, Lib.hid rfl⟩
            have hb35 : Below w3.heap.size w3 w5 := by rw [← HW5.out]; exact below_drewN
            have HPS5 := Lib.hid (HPS3.out.below (Nat.le_refl _) hb35)
            have HQ5 := Lib.hid (HQ3.out.below (Nat.le_refl _) hb35)
            have HB5 := Lib.hid (HB3.out.trans (hb35.mono HB3.out.size))
            have hC5 : C ≤ w5.heap.size := Nat.le_trans hC4 hb35.size
            rw [HW5.out]
            clear hb35 hx3
            clear hwr
            have hn2 := Lib.hid (pl.uinv_hard hinv.out hkl.out HX.out (.inr hsp.out))
            go_wp2_with (at_builtin; refine wpList_append_own _ rfl _ _ 39 rfl w.heap.size 23 j0 (.slice none 0 0) 1 24 Try.underlying39 hj hy0 hy1 hy2 rfl (by decide) _ _ _ rfl (World.ownsRow.alloc HPS5.out.1 _) ⟨w5.heap.size, 0, none⟩ 1 1 [.slice a3 N3 c3] rfl rfl ?kc1 ?kc2 ?kc3 ?kc4 ?kc5 ?_)
            case kc1 => exact cell_one_new _ _ _
            case kc2 => intro u hu; simp at hu; subst hu; rfl
            case kc3 => have := hul.out; unfold maxLen; omega
            case kc4 => have := hul.out; omega
            case kc5 => have := HB5.out.size; simp; omega
            intro v4 w4 hown4 hgrow4 _
            have HP4 := Lib.hid (HPS5.out.pushed HQ5.out hC1 hC.out hown4 hgrow4)
            have HB4 := Lib.hid ((HB5.out.alloc HB5.out.size _).grown hgrow4 (by have := HB5.out.size; simp; omega) (fun g hg => (World.ownsRow.lt HPS5.out.1 g hg).1))
            clear hown4 hgrow4
            go_wp2
            go_roundw
            case rel => exact ⟨k + 1, w4.heap.size, _, _, [], by omega, by go_num, HP4.out.below (Nat.le_refl _) ((Below.refl _ _).alloc (Nat.le_refl _) _), World.ownsRow_made _ _ _ (Nat.le_refl _) (by unfold maxLen; omega) rfl, Lib.hid HP4.out.lt, HB4.out.size, by simp, hn2, HB4.out.alloc HB4.out.size _⟩
            case measure => simp [intOf]; omega
      · have HC : Hid (∀ j u, ((pl.wordsOf x).map Value.string)[j]? = some u → w2.cell? ((⟨g, 0, none⟩ : Addr).add j) = some u) := Lib.hid (fun j u hu => by
          have hadd : (⟨g, 0, none⟩ : Addr).add j = ⟨g, j, none⟩ := by unfold Addr.add; split <;> simp_all
          have hj : j < (pl.wordsOf x).length := by
            have := (List.getElem?_eq_some_iff.1 hu).1
            simpa using this
          rw [hadd, World.ownsRow.cellAt how j (by omega)]
          exact hu)
        clear how how2 hg hs htake
        go_wp2_with (at_builtin; refine wpList_append_own _ rfl _ _ 23 rfl C 9 i0 (.string ByteArray.empty) 1 16 Try.underlying23 hi hz0 hz1 hz2 rfl (by decide) _ _ _ rfl HQ2.out ⟨g, 0, none⟩ (pl.wordsOf x).length cap ((pl.wordsOf x).map Value.string) rfl (by simp) HC.out ?kz2 ?kz3 ?kz4 ?kz5 ?_)
        case kz2 => intro u hu; rw [List.mem_map] at hu; obtain ⟨s, _, rfl⟩ := hu; rfl
        case kz3 => unfold maxLen; omega
        case kz4 => omega
        case kz5 => exact hC3
        intro v3 w3 hown3 hgrow3 _
        have HQ3 := Lib.hid (OStrs.catP hown3)
        have HPS3 := Lib.hid (HPS2.out.grown HQ2.out hgrow3 (.inr hC.out))
        have HB3 := Lib.hid (HB2.out.grown hgrow3 HB2.out.size (fun k hk => Nat.le_trans hC1 (World.ownsRow.lt HQ2.out k hk).1))
        have hC4 : C ≤ w3.heap.size := Nat.le_trans hC3 hgrow3.size
        clear hown3 hgrow3
        obtain ⟨a3, c3, hv3⟩ := HQ3.out.reads.slice
        obtain ⟨N3, HN3⟩ : ∃ N3, Hid ((cur ++ pl.wordsOf x).length = N3) := ⟨_, Lib.hid rfl⟩
        rw [HN3.out] at hv3
        subst hv3
        obtain ⟨b3, o3, e3, hx3⟩ := hrr.out.at HN.out HB3.out hlt
        simp only [Option.some.injEq, Addr.mk.injEq, and_true] at e3
        obtain ⟨rfl, rfl⟩ := e3
        rw [HX.out] at hx3
        by_cases hz : x.size = 0
        · have hem : x.toList.isEmpty = true := pl.empty_of hz
          have hsp3 : Hid (pl.endSp x = false) := Lib.hid (pl.endSp_zero hz)
          clear hz
          go_wp2_with fail
          go_quiet (fail)
          obtain ⟨w5, HW5⟩ : ∃ u, Hid (w3.drewN nq = u) := ⟨_, Lib.hid rfl⟩
          have hb35 : Below w3.heap.size w3 w5 := by rw [← HW5.out]; exact below_drewN
          have HPS5 := Lib.hid (HPS3.out.below (Nat.le_refl _) hb35)
          have HQ5 := Lib.hid (HQ3.out.below (Nat.le_refl _) hb35)
          have HB5 := Lib.hid (HB3.out.trans (hb35.mono HB3.out.size))
          have hC5 : C ≤ w5.heap.size := Nat.le_trans hC4 hb35.size
          rw [HW5.out]
          clear hb35 hx3
          have hn2 := Lib.hid (pl.uinv_hard hinv.out hkl.out HX.out (.inr hsp3.out))
          go_wp2_with (at_builtin; refine wpList_append_own _ rfl _ _ 39 rfl w.heap.size 23 j0 (.slice none 0 0) 1 24 Try.underlying39 hj hy0 hy1 hy2 rfl (by decide) _ _ _ rfl (World.ownsRow.alloc HPS5.out.1 _) ⟨w5.heap.size, 0, none⟩ 1 1 [.slice a3 N3 c3] rfl rfl ?kd1 ?kd2 ?kd3 ?kd4 ?kd5 ?_)
          case kd1 => exact cell_one_new _ _ _
          case kd2 => intro u hu; simp at hu; subst hu; rfl
          case kd3 => have := hul.out; unfold maxLen; omega
          case kd4 => have := hul.out; omega
          case kd5 => have := HB5.out.size; simp; omega
          intro v4 w4 hown4 hgrow4 _
          have HP4 := Lib.hid (HPS5.out.pushed HQ5.out hC1 hC.out hown4 hgrow4)
          have HB4 := Lib.hid ((HB5.out.alloc HB5.out.size _).grown hgrow4 (by have := HB5.out.size; simp; omega) (fun g hg => (World.ownsRow.lt HPS5.out.1 g hg).1))
          clear hown4 hgrow4
          go_wp2
          go_roundw
          case rel => exact ⟨k + 1, w4.heap.size, _, _, [], by omega, by go_num, HP4.out.below (Nat.le_refl _) ((Below.refl _ _).alloc (Nat.le_refl _) _), World.ownsRow_made _ _ _ (Nat.le_refl _) (by unfold maxLen; omega) rfl, Lib.hid HP4.out.lt, HB4.out.size, by simp, hn2, HB4.out.alloc HB4.out.size _⟩
          case measure => simp [intOf]; omega
        · have hem : x.toList.isEmpty = false := pl.nonempty_of hz
          have hpos : 0 < x.size := by omega
          have hz1 : (0 : Int) ≤ (x.size : Int) - 1 := by omega
          have hz2 : (x.size : Int) - 1 < (x.size : Int) := by omega
          have hz3 : (1 : Int) ≤ (x.size : Int) := by omega
          have hz4 : x.size - 1 < x.size := by omega
          have hz5 : 1 ≤ x.size := by omega
          have hwr : IntKind.i64.wrap ((x.size : Int) - 1) = (x.size : Int) - 1 := by rw [IntKind.wrap_i64]; omega
          have htn : ((x.size : Int) - 1).toNat = x.size - 1 := by omega
          have hea := Lib.hid (pl.endSp_at hpos)
          by_cases h32 : x[x.size - 1] = 32
          · have hsp := Lib.hid (hea.out.trans (decide_eq_true h32))
            have h32i : ((x[x.size - 1].toNat : Int) == 32) = true := by rw [h32]; rfl
            clear h32 hz
            by_cases hlast : k + 1 = n
            · have hle : ((k : Int) + 1 == (n : Int)) = true := by simp; omega
              go_wp2_with fail
              go_quiet (fail)
              obtain ⟨w5, HW5⟩ : ∃ u, Hid (w3.drewN nq = u) := ⟨_, Lib.hid rfl⟩
              have hb35 : Below w3.heap.size w3 w5 := by rw [← HW5.out]; exact below_drewN
              have HPS5 := Lib.hid (HPS3.out.below (Nat.le_refl _) hb35)
              have HQ5 := Lib.hid (HQ3.out.below (Nat.le_refl _) hb35)
              have HB5 := Lib.hid (HB3.out.trans (hb35.mono HB3.out.size))
              have hC5 : C ≤ w5.heap.size := Nat.le_trans hC4 hb35.size
              rw [HW5.out]
              clear hb35 hx3
              clear hwr
              have hn2 := Lib.hid (pl.uinv_hard hinv.out hkl.out HX.out (.inl (by rw [← HN.out]; exact hlast)))
              go_wp2_with (at_builtin; refine wpList_append_own _ rfl _ _ 39 rfl w.heap.size 23 j0 (.slice none 0 0) 1 24 Try.underlying39 hj hy0 hy1 hy2 rfl (by decide) _ _ _ rfl (World.ownsRow.alloc HPS5.out.1 _) ⟨w5.heap.size, 0, none⟩ 1 1 [.slice a3 N3 c3] rfl rfl ?ke1 ?ke2 ?ke3 ?ke4 ?ke5 ?_)
              case ke1 => exact cell_one_new _ _ _
              case ke2 => intro u hu; simp at hu; subst hu; rfl
              case ke3 => have := hul.out; unfold maxLen; omega
              case ke4 => have := hul.out; omega
              case ke5 => have := HB5.out.size; simp; omega
              intro v4 w4 hown4 hgrow4 _
              have HP4 := Lib.hid (HPS5.out.pushed HQ5.out hC1 hC.out hown4 hgrow4)
              have HB4 := Lib.hid ((HB5.out.alloc HB5.out.size _).grown hgrow4 (by have := HB5.out.size; simp; omega) (fun g hg => (World.ownsRow.lt HPS5.out.1 g hg).1))
              clear hown4 hgrow4
              go_wp2
              go_roundw
              case rel => exact ⟨k + 1, w4.heap.size, _, _, [], by omega, by go_num, HP4.out.below (Nat.le_refl _) ((Below.refl _ _).alloc (Nat.le_refl _) _), World.ownsRow_made _ _ _ (Nat.le_refl _) (by unfold maxLen; omega) rfl, Lib.hid HP4.out.lt, HB4.out.size, by simp, hn2, HB4.out.alloc HB4.out.size _⟩
              case measure => simp [intOf]; omega
            · have hle : ((k : Int) + 1 == (n : Int)) = false := beq_eq_false_iff_ne.2 (by omega)
              have hn2 := Lib.hid (pl.uinv_soft hinv.out (by rw [← HN.out]; omega) HX.out hsp.out)
              go_wp2_with fail
              go_quiet (fail)
              obtain ⟨w5, HW5⟩ : ∃ u, Hid (w3.drewN nq = u) := ⟨_, Lib.hid rfl⟩
              have hb35 : Below w3.heap.size w3 w5 := by rw [← HW5.out]; exact below_drewN
              have HPS5 := Lib.hid (HPS3.out.below (Nat.le_refl _) hb35)
              have HQ5 := Lib.hid (HQ3.out.below (Nat.le_refl _) hb35)
              have HB5 := Lib.hid (HB3.out.trans (hb35.mono HB3.out.size))
              have hC5 : C ≤ w5.heap.size := Nat.le_trans hC4 hb35.size
              rw [HW5.out]
              clear hb35 hx3
              clear hwr
              go_wp2_with fail
              go_roundw
              case rel => exact ⟨k + 1, C, us, out, _, by omega, by go_num, HPS5.out, HQ5.out, hC, hC1, hC5, hn2, HB5.out⟩
              case measure => simp [intOf]; omega
          · have hsp := Lib.hid (hea.out.trans (decide_eq_false h32))
            have h32i : ((x[x.size - 1].toNat : Int) == 32) = false := beq_eq_false_iff_ne.2 (pl.byte_ne h32)
            clear h32 hz
            go_wp2_with fail
            go_quiet (fail)
            obtain ⟨w5, HW5⟩ : ∃ u, Hid (w3.drewN nq = u) := ⟨_, Lib.hid rfl⟩
            have hb35 : Below w3.heap.size w3 w5 := by rw [← HW5.out]; exact below_drewN
            have HPS5 := Lib.hid (HPS3.out.below (Nat.le_refl _) hb35)
            have HQ5 := Lib.hid (HQ3.out.below (Nat.le_refl _) hb35)
            have HB5 := Lib.hid (HB3.out.trans (hb35.mono HB3.out.size))
            have hC5 : C ≤ w5.heap.size := Nat.le_trans hC4 hb35.size
            rw [HW5.out]
            clear hb35 hx3
            clear hwr
            have hn2 := Lib.hid (pl.uinv_hard hinv.out hkl.out HX.out (.inr hsp.out))
            go_wp2_with (at_builtin; refine wpList_append_own _ rfl _ _ 39 rfl w.heap.size 23 j0 (.slice none 0 0) 1 24 Try.underlying39 hj hy0 hy1 hy2 rfl (by decide) _ _ _ rfl (World.ownsRow.alloc HPS5.out.1 _) ⟨w5.heap.size, 0, none⟩ 1 1 [.slice a3 N3 c3] rfl rfl ?kf1 ?kf2 ?kf3 ?kf4 ?kf5 ?_)
            case kf1 => exact cell_one_new _ _ _
            case kf2 => intro u hu; simp at hu; subst hu; rfl
            case kf3 => have := hul.out; unfold maxLen; omega
            case kf4 => have := hul.out; omega
            case kf5 => have := HB5.out.size; simp; omega
            intro v4 w4 hown4 hgrow4 _
            have HP4 := Lib.hid (HPS5.out.pushed HQ5.out hC1 hC.out hown4 hgrow4)
            have HB4 := Lib.hid ((HB5.out.alloc HB5.out.size _).grown hgrow4 (by have := HB5.out.size; simp; omega) (fun g hg => (World.ownsRow.lt HPS5.out.1 g hg).1))
            clear hown4 hgrow4
            go_wp2
            go_roundw
            case rel => exact ⟨k + 1, w4.heap.size, _, _, [], by omega, by go_num, HP4.out.below (Nat.le_refl _) ((Below.refl _ _).alloc (Nat.le_refl _) _), World.ownsRow_made _ _ _ (Nat.le_refl _) (by unfold maxLen; omega) rfl, Lib.hid HP4.out.lt, HB4.out.size, by simp, hn2, HB4.out.alloc HB4.out.size _⟩
            case measure => simp [intOf]; omega
    · obtain rfl : k = n := by omega
      have he : Hid (out = pl.unfl [] l) := Lib.hid (pl.uinv_done (by have := hinv.out; rw [HN.out] at this; exact this))
      go_wp2_with fail
      go_ret
      exact ⟨_, rfl, ⟨us, by rw [← he.out]; exact hps⟩, hbel⟩

theorem sUnflow_any (l : List ByteArray) (v : Value) (w : World) (hr : RStrs w v l) (hlen : l.length ≤ maxLen) (hsz : ∀ i, i < l.length → (nth l i).size ≤ maxLen) :
    Calls Try.prog 29 #[v] w fun e w' => ∃ v', e = .returned v' ∧ HPs w.heap.size w' v' (pl.unflR l) ∧ Below w.heap.size w w' := by
  by_cases hv : pl.validLs l = true
  · have e : pl.unflR l = pl.unfl [] l := by simp [pl.unflR, hv]
    rw [e]
    exact sUnflow_ok l v w hr hv
  · have hv' : pl.validLs l = false := by simpa using hv
    have he : Hid (pl.unflR l = []) := Lib.hid (by simp [pl.unflR, hv'])
    clear hv
    go_enter Try.func29, Try.ntmps29
    go_wp2_with fail
    refine (svalidLines_any l _ _ hr hlen hsz).mono ?_
    rintro e w' ⟨rfl, rfl⟩
    rw [hv']
    go_wp2_with fail
    go_ret
    exact ⟨_, rfl, by rw [he.out]; exact HPs.nil _ _, Below.refl _ _⟩
end Go.Proofs.Ytoeejepamlnkkaa
