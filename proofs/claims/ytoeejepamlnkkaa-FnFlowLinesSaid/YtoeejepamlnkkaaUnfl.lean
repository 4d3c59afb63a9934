/- Contract: the program's UnflowLines. -/
import Derived.Test.YtoeejepamlnkkaaParts
import Derived.Test.YtoeejepamlnkkaaWords
import Derived.Test.YtoeejepamlnkkaaShelfP
import Derived.Laws.AppendOwnNone
namespace Go.Proofs.Ytoeejepamlnkkaa
open Go.RowKit
set_option maxRecDepth 100000

/-- a slice of slices of strings of the call's own, whatever its rows are -/
def HPs (B : Nat) (w : World) (v : Value) (ps : pl.Gs) : Prop := ∃ us, OPs B w v us ps
theorem HPs.reads {B : Nat} {w : World} {v : Value} {ps : pl.Gs} (h : HPs B w v ps) : RPs w v ps := by
  obtain ⟨us, h⟩ := h; exact h.reads
theorem HPs.below {B C : Nat} {w w' : World} {v : Value} {ps : pl.Gs} (h : HPs B w v ps) (hC : w.heap.size ≤ C) (hb : Below C w w') : HPs B w' v ps := by
  obtain ⟨us, h⟩ := h; exact ⟨us, h.below hC hb⟩
theorem HPs.nil (B : Nat) (w : World) : HPs B w (.slice none 0 0) [] := ⟨[], OPs.nil B w⟩
theorem OStrs.catP {B : Nat} {w' : World} {v' : Value} {l l2 : List ByteArray} (h : w'.ownsRow B 9 1 v' (l.length + l2.length) (l.map Value.string ++ l2.map Value.string)) : OStrs B w' v' (l ++ l2) := by
  unfold OStrs
  simpa using h
/-- one more row is pushed -/
theorem OPs.pushed {B C : Nat} {w w' : World} {o : Obj} {v v' : Value} {us : List Value} {ps : pl.Gs} {q : Value} {cur : List ByteArray} (h : OPs B w v us ps) (hq : OStrs C w q cur) (hB : B ≤ C) (hC : ∀ i k, i < us.length → (nthV us i).ownBlock = some k → k < C)
    (ho : w'.ownsRow B 23 1 v' (us.length + 1) (us ++ [q])) (hg : (w.alloc o).grownBy w' v.ownBlock) : OPs B w' v' (us ++ [q]) (ps ++ [cur]) := by
  have ho0 : (w.alloc o).ownsRow B 23 1 v us.length us := World.ownsRow.alloc h.1 o
  have hi0 : Inn B (w.alloc o) us ps := h.2.below (Nat.le_refl _) ((Below.refl _ _).alloc (Nat.le_refl _) _)
  have hi1 := hi0.outer ho0 hg
  have hq0 : OStrs C (w.alloc o) q cur := hq.alloc o
  have hq1 : OStrs C w' q cur := own_keep hq0 (fun k hk => hg.block k (World.ownsRow.lt hq0 k hk).2 (fun e => types_apart ho0 hq0 (by decide) k e.symm hk))
  refine ⟨by simpa using ho, hi1.push (hq1.mono hB) (fun i k hi2 hk e => ?_)⟩
  have h1 := hC i k hi2 hk
  have h2 := (World.ownsRow.lt hq1 k e).1
  omega
theorem OPs.lt {B : Nat} {w : World} {v : Value} {us : List Value} {ps : pl.Gs} (h : OPs B w v us ps) : ∀ i k, i < us.length → (nthV us i).ownBlock = some k → k < w.heap.size := fun i k hi hk => (h.2.lt i k hi hk).2

set_option maxHeartbeats 4000000 in
theorem iUnflow_ok (l : List ByteArray) (v : Value) (w : World) (hr : RStrs w v l) (hv : pl.validLs l = true) :
    Calls Try.prog 27 #[v] w fun e w' => ∃ v', e = .returned v' ∧ HPs w.heap.size w' v' (pl.unfl [] l) ∧ Below w.heap.size w w' := by
  obtain ⟨i0, hi, hz0, hz1, hz2⟩ := info_parts infoS
  obtain ⟨j0, hj, hy0, hy1, hy2⟩ := info_parts infoSS
  have h20 := pl.validLs_len hv
  have hs120 := Lib.hid (pl.validLs_size hv)
  obtain ⟨n, hn⟩ : ∃ n, n = l.length := ⟨_, rfl⟩
  have HN := Lib.hid hn
  have hrr := Lib.hid hr
  have HV := Lib.hid hv
  obtain ⟨a0, cap0, rfl⟩ := hr.slice
  rw [← hn] at h20 hrr ⊢
  clear hn hr hv
  go_enter Try.func27, Try.ntmps27
  go_wp2_with fail
  refine (ivalidLines_any l _ _ hrr.out (by unfold maxLen; rw [← HN.out]; omega) (fun i hi => Nat.le_trans (hs120.out i hi) (by unfold maxLen; omega))).mono ?_
  rintro e w1 ⟨rfl, hb1⟩
  rw [HV.out]
  have HB1 := Lib.hid hb1
  clear hb1
  go_wp2_with fail
  go_loopw [3, 4, 12] (fun pv qv iv wr => ∃ (k C : Nat) (us : List Value) (out : pl.Gs) (cur : List ByteArray), k ≤ n ∧ iv = .int .i64 k ∧ OPs w.heap.size wr pv us out ∧ OStrs C wr qv cur ∧ Hid (∀ i g, i < us.length → (nthV us i).ownBlock = some g → g < C) ∧ w.heap.size ≤ C ∧ C ≤ wr.heap.size ∧ Hid (pl.UInv l k out cur) ∧ Below w.heap.size w wr) (fun _ _ iv _ => n - (intOf iv).toNat)
  case atStart => exact ⟨0, w1.heap.size, [], [], [], Nat.zero_le _, rfl, OPs.nil _ _, OStrs.nil _ _, Lib.hid (fun i g h => by simp at h), HB1.out.size, Nat.le_refl _, Lib.hid (pl.uinv_zero l), HB1.out⟩
  case round =>
    obtain ⟨k, C, us, out, cur, hk, rfl, hps, hq, hC, hC1, hC2, hinv, hbel⟩ := hrel
    by_cases hlt : k < n
    · have hkl : Hid (k < l.length) := Lib.hid (by rw [← HN.out]; exact hlt)
      obtain ⟨b1, o1, rfl, hx⟩ := hrr.out.at HN.out hbel hlt
      have hxm := hs120.out k hkl.out
      obtain ⟨x, HX⟩ : ∃ x, Hid (nth l k = x) := ⟨_, Lib.hid rfl⟩
      rw [HX.out] at hx hxm
      have hlen1 : out.length ≤ 20 := by have := hinv.out.2.1; omega
      have hlen2 : cur.length ≤ 2400 := by have := hinv.out.2.2; omega
      have hwl := pl.wordsOf_len x
      have HPS := Lib.hid hps
      have HQ := Lib.hid hq
      have HB := Lib.hid hbel
      have hul : Hid (us.length = out.length) := Lib.hid hps.2.len
      have hxs : Hid (x.size ≤ 9223372036854775807) := Lib.hid (by omega)
      clear hps hq hbel
      go_wp2_with fail
      refine (iWordsOf_any x _ (by unfold maxLen; omega)).mono ?_
      rintro e w2 ⟨vw, rfl, how, hbw⟩
      have HPS2 := Lib.hid (HPS.out.below (Nat.le_refl _) hbw)
      have HQ2 := Lib.hid (HQ.out.below (Nat.le_refl _) hbw)
      have HB2 := Lib.hid (HB.out.trans (hbw.mono HB.out.size))
      have hC3 : C ≤ w2.heap.size := Nat.le_trans hC2 hbw.size
      clear hbw hx
      have how2 := how
      rcases how2.2 with ⟨rfl, hn0⟩ | ⟨g, cap, cu, rfl, hgB, hg, hle, hm, hs, htake⟩
      · have hW0 : Hid (pl.wordsOf x = []) := Lib.hid (List.length_eq_zero_iff.1 hn0)
        clear how how2 hn0
        have HPS3 := HPS2
        have HB3 := HB2
        have hC4 := hC3
        obtain ⟨w3, hw3⟩ : ∃ w3, w3 = w2 := ⟨_, rfl⟩
        subst hw3
        obtain ⟨a3, c3, hv3⟩ := HQ2.out.reads.slice
        obtain ⟨N3, HN3⟩ : ∃ N3, Hid (cur.length = N3) := ⟨_, Lib.hid rfl⟩
        rw [HN3.out] at hv3
        subst hv3
        have HQ3 : Hid (OStrs C w3 (.slice a3 N3 c3) (cur ++ pl.wordsOf x)) := Lib.hid (by rw [hW0.out, List.append_nil]; exact HQ2.out)
        have hS := Lib.hid (pl.hasS_sp x)
        by_cases hlast : k + 1 = n
        · have hle : ((k : Int) == (n : Int) - 1) = true := by simp; omega
          have hn2 := Lib.hid (pl.uinv_hard hinv.out hkl.out HX.out (.inl (by rw [← HN.out]; exact hlast)))
          go_wp2_with (first | (at_builtin; refine wpList_append_own_none rfl _ _ 23 rfl C 9 i0 1 Try.underlying23 hi _ _ _ rfl HQ2.out rfl ?_) | (at_builtin; refine wpList_append_own _ rfl _ _ 39 rfl w.heap.size 23 j0 (.slice none 0 0) 1 24 Try.underlying39 hj hy0 hy1 hy2 rfl (by decide) _ _ _ rfl (World.ownsRow.alloc HPS3.out.1 _) ⟨w3.heap.size, 0, none⟩ 1 1 [.slice a3 N3 c3] rfl rfl ?ka1 ?ka2 ?ka3 ?ka4 ?ka5 ?_))
          case ka1 => exact cell_one_new _ _ _
          case ka2 => intro u hu; simp at hu; subst hu; rfl
          case ka3 => have := hul.out; unfold maxLen; omega
          case ka4 => have := hul.out; omega
          case ka5 => have := HB3.out.size; simp; omega
          intro v4 w4 hown4 hgrow4 _
          have HP4 := Lib.hid (HPS3.out.pushed HQ3.out hC1 hC.out hown4 hgrow4)
          have HB4 := Lib.hid ((HB3.out.alloc HB3.out.size _).grown hgrow4 (by have := HB3.out.size; simp; omega) (fun g hg => (World.ownsRow.lt HPS3.out.1 g hg).1))
          clear hown4 hgrow4
          go_wp2
          go_roundw
          case rel => exact ⟨k + 1, w4.heap.size, _, _, [], by omega, by go_num, HP4.out, OStrs.nil _ _, Lib.hid HP4.out.lt, HB4.out.size, Nat.le_refl _, hn2, HB4.out⟩
          case measure => simp [intOf]; omega
        · have hle : ((k : Int) == (n : Int) - 1) = false := beq_eq_false_iff_ne.2 (by omega)
          cases hsp : pl.endSp x with
          | false =>
            have hsp2 : Hid (Lib.hasSuffix x.data.toList [32] = false) := Lib.hid (hS.out.trans hsp)
            have hsp3 : Hid (pl.endSp x = false) := Lib.hid hsp
            clear hsp
            go_wp2_with (at_builtin; refine wpList_append_own_none rfl _ _ 23 rfl C 9 i0 1 Try.underlying23 hi _ _ _ rfl HQ2.out rfl ?_)
            refine (Try.strings_HasSuffix x ⟨#[32]⟩ _ hxs.out).mono ?_
            rintro e w' ⟨rfl, hw⟩
            rw [hw, hsp2.out]
            have hn2 := Lib.hid (pl.uinv_hard hinv.out hkl.out HX.out (.inr hsp3.out))
            go_wp2_with (at_builtin; refine wpList_append_own _ rfl _ _ 39 rfl w.heap.size 23 j0 (.slice none 0 0) 1 24 Try.underlying39 hj hy0 hy1 hy2 rfl (by decide) _ _ _ rfl (World.ownsRow.alloc HPS3.out.1 _) ⟨w3.heap.size, 0, none⟩ 1 1 [.slice a3 N3 c3] rfl rfl ?kb1 ?kb2 ?kb3 ?kb4 ?kb5 ?_)
            case kb1 => exact cell_one_new _ _ _
            case kb2 => intro u hu; simp at hu; subst hu; rfl
            case kb3 => have := hul.out; unfold maxLen; omega
            case kb4 => have := hul.out; omega
            case kb5 => have := HB3.out.size; simp; omega
            intro v4 w4 hown4 hgrow4 _
            have HP4 := Lib.hid (HPS3.out.pushed HQ3.out hC1 hC.out hown4 hgrow4)
            have HB4 := Lib.hid ((HB3.out.alloc HB3.out.size _).grown hgrow4 (by have := HB3.out.size; simp; omega) (fun g hg => (World.ownsRow.lt HPS3.out.1 g hg).1))
            clear hown4 hgrow4
            go_wp2
            go_roundw
            case rel => exact ⟨k + 1, w4.heap.size, _, _, [], by omega, by go_num, HP4.out, OStrs.nil _ _, Lib.hid HP4.out.lt, HB4.out.size, Nat.le_refl _, hn2, HB4.out⟩
            case measure => simp [intOf]; omega
          | true =>
            have hsp2 : Hid (Lib.hasSuffix x.data.toList [32] = true) := Lib.hid (hS.out.trans hsp)
            have hn2 := Lib.hid (pl.uinv_soft hinv.out (by rw [← HN.out]; omega) HX.out hsp)
            clear hsp
            go_wp2_with (at_builtin; refine wpList_append_own_none rfl _ _ 23 rfl C 9 i0 1 Try.underlying23 hi _ _ _ rfl HQ2.out rfl ?_)
            refine (Try.strings_HasSuffix x ⟨#[32]⟩ _ hxs.out).mono ?_
            rintro e w' ⟨rfl, hw⟩
            rw [hw, hsp2.out]
            go_wp2_with fail
            go_roundw
            case rel => exact ⟨k + 1, C, us, out, _, by omega, by go_num, HPS3.out, HQ3.out, hC, hC1, hC4, hn2, HB3.out⟩
            case measure => simp [intOf]; omega
      · have HC : Hid (∀ j u, ((pl.wordsOf x).map Value.string)[j]? = some u → w2.cell? ((⟨g, 0, none⟩ : Addr).add j) = some u) := Lib.hid (fun j u hu => by
          have hadd : (⟨g, 0, none⟩ : Addr).add j = ⟨g, j, none⟩ := by unfold Addr.add; split <;> simp_all
          have hj : j < (pl.wordsOf x).length := by
            have := (List.getElem?_eq_some_iff.1 hu).1
            simpa using this
          rw [hadd, World.ownsRow.cellAt how j (by omega)]
          exact hu)
        clear how how2 hg hs htake
        go_wp2_with (at_builtin; refine wpList_append_own _ rfl _ _ 23 rfl C 9 i0 (.string ByteArray.empty) 1 16 Try.underlying23 hi hz0 hz1 hz2 rfl (by decide) _ _ _ rfl HQ2.out ⟨g, 0, none⟩ (pl.wordsOf x).length cap ((pl.wordsOf x).map Value.string) rfl (by simp) HC.out ?kz2 ?kz3 ?kz4 ?kz5 ?_)
        case kz2 => intro u hu; rw [List.mem_map] at hu; obtain ⟨s, _, rfl⟩ := hu; rfl
        case kz3 => unfold maxLen; omega
        case kz4 => omega
        case kz5 => exact hC3
        intro v3 w3 hown3 hgrow3 _
        have HQ3 := Lib.hid (OStrs.catP hown3)
        have HPS3 := Lib.hid (HPS2.out.grown HQ2.out hgrow3 (.inr hC.out))
        have HB3 := Lib.hid (HB2.out.grown hgrow3 HB2.out.size (fun k hk => Nat.le_trans hC1 (World.ownsRow.lt HQ2.out k hk).1))
        have hC4 : C ≤ w3.heap.size := Nat.le_trans hC3 hgrow3.size
        clear hown3 hgrow3
        obtain ⟨a3, c3, hv3⟩ := HQ3.out.reads.slice
        obtain ⟨N3, HN3⟩ : ∃ N3, Hid ((cur ++ pl.wordsOf x).length = N3) := ⟨_, Lib.hid rfl⟩
        rw [HN3.out] at hv3
        subst hv3
        have hS := Lib.hid (pl.hasS_sp x)
        by_cases hlast : k + 1 = n
        · have hle : ((k : Int) == (n : Int) - 1) = true := by simp; omega
          have hn2 := Lib.hid (pl.uinv_hard hinv.out hkl.out HX.out (.inl (by rw [← HN.out]; exact hlast)))
          go_wp2_with (at_builtin; refine wpList_append_own _ rfl _ _ 39 rfl w.heap.size 23 j0 (.slice none 0 0) 1 24 Try.underlying39 hj hy0 hy1 hy2 rfl (by decide) _ _ _ rfl (World.ownsRow.alloc HPS3.out.1 _) ⟨w3.heap.size, 0, none⟩ 1 1 [.slice a3 N3 c3] rfl rfl ?kc1 ?kc2 ?kc3 ?kc4 ?kc5 ?_)
          case kc1 => exact cell_one_new _ _ _
          case kc2 => intro u hu; simp at hu; subst hu; rfl
          case kc3 => have := hul.out; unfold maxLen; omega
          case kc4 => have := hul.out; omega
          case kc5 => have := HB3.out.size; simp; omega
          intro v4 w4 hown4 hgrow4 _
          have HP4 := Lib.hid (HPS3.out.pushed HQ3.out hC1 hC.out hown4 hgrow4)
          have HB4 := Lib.hid ((HB3.out.alloc HB3.out.size _).grown hgrow4 (by have := HB3.out.size; simp; omega) (fun g hg => (World.ownsRow.lt HPS3.out.1 g hg).1))
          clear hown4 hgrow4
          go_wp2
          go_roundw
          case rel => exact ⟨k + 1, w4.heap.size, _, _, [], by omega, by go_num, HP4.out, OStrs.nil _ _, Lib.hid HP4.out.lt, HB4.out.size, Nat.le_refl _, hn2, HB4.out⟩
          case measure => simp [intOf]; omega
        · have hle : ((k : Int) == (n : Int) - 1) = false := beq_eq_false_iff_ne.2 (by omega)
          cases hsp : pl.endSp x with
          | false =>
            have hsp2 : Hid (Lib.hasSuffix x.data.toList [32] = false) := Lib.hid (hS.out.trans hsp)
            have hsp3 : Hid (pl.endSp x = false) := Lib.hid hsp
            clear hsp
            go_wp2_with fail
            refine (Try.strings_HasSuffix x ⟨#[32]⟩ _ hxs.out).mono ?_
            rintro e w' ⟨rfl, hw⟩
            rw [hw, hsp2.out]
            have hn2 := Lib.hid (pl.uinv_hard hinv.out hkl.out HX.out (.inr hsp3.out))
            go_wp2_with (at_builtin; refine wpList_append_own _ rfl _ _ 39 rfl w.heap.size 23 j0 (.slice none 0 0) 1 24 Try.underlying39 hj hy0 hy1 hy2 rfl (by decide) _ _ _ rfl (World.ownsRow.alloc HPS3.out.1 _) ⟨w3.heap.size, 0, none⟩ 1 1 [.slice a3 N3 c3] rfl rfl ?kd1 ?kd2 ?kd3 ?kd4 ?kd5 ?_)
            case kd1 => exact cell_one_new _ _ _
            case kd2 => intro u hu; simp at hu; subst hu; rfl
            case kd3 => have := hul.out; unfold maxLen; omega
            case kd4 => have := hul.out; omega
            case kd5 => have := HB3.out.size; simp; omega
            intro v4 w4 hown4 hgrow4 _
            have HP4 := Lib.hid (HPS3.out.pushed HQ3.out hC1 hC.out hown4 hgrow4)
            have HB4 := Lib.hid ((HB3.out.alloc HB3.out.size _).grown hgrow4 (by have := HB3.out.size; simp; omega) (fun g hg => (World.ownsRow.lt HPS3.out.1 g hg).1))
            clear hown4 hgrow4
            go_wp2
            go_roundw
            case rel => exact ⟨k + 1, w4.heap.size, _, _, [], by omega, by go_num, HP4.out, OStrs.nil _ _, Lib.hid HP4.out.lt, HB4.out.size, Nat.le_refl _, hn2, HB4.out⟩
            case measure => simp [intOf]; omega
          | true =>
            have hsp2 : Hid (Lib.hasSuffix x.data.toList [32] = true) := Lib.hid (hS.out.trans hsp)
            have hn2 := Lib.hid (pl.uinv_soft hinv.out (by rw [← HN.out]; omega) HX.out hsp)
            clear hsp
            go_wp2_with fail
            refine (Try.strings_HasSuffix x ⟨#[32]⟩ _ hxs.out).mono ?_
            rintro e w' ⟨rfl, hw⟩
            rw [hw, hsp2.out]
            go_wp2_with fail
            go_roundw
            case rel => exact ⟨k + 1, C, us, out, _, by omega, by go_num, HPS3.out, HQ3.out, hC, hC1, hC4, hn2, HB3.out⟩
            case measure => simp [intOf]; omega
    · obtain rfl : k = n := by omega
      have he : Hid (out = pl.unfl [] l) := Lib.hid (pl.uinv_done (by have := hinv.out; rw [HN.out] at this; exact this))
      go_wp2_with fail
      go_ret
      exact ⟨_, rfl, ⟨us, by rw [← he.out]; exact hps⟩, hbel⟩

theorem iUnflow_any (l : List ByteArray) (v : Value) (w : World) (hr : RStrs w v l) (hlen : l.length ≤ maxLen) (hsz : ∀ i, i < l.length → (nth l i).size ≤ maxLen) :
    Calls Try.prog 27 #[v] w fun e w' => ∃ v', e = .returned v' ∧ HPs w.heap.size w' v' (pl.unflR l) ∧ Below w.heap.size w w' := by
  by_cases hv : pl.validLs l = true
  · have e : pl.unflR l = pl.unfl [] l := by simp [pl.unflR, hv]
    rw [e]
    exact iUnflow_ok l v w hr hv
  · have hv' : pl.validLs l = false := by simpa using hv
    have he : Hid (pl.unflR l = []) := Lib.hid (by simp [pl.unflR, hv'])
    clear hv
    go_enter Try.func27, Try.ntmps27
    go_wp2_with fail
    refine (ivalidLines_any l _ _ hr hlen hsz).mono ?_
    rintro e w1 ⟨rfl, hb1⟩
    rw [hv']
    go_wp2_with fail
    go_ret
    exact ⟨_, rfl, by rw [he.out]; exact HPs.nil _ _, hb1⟩
end Go.Proofs.Ytoeejepamlnkkaa
