/- Contract: the model's FillWords. -/
import Derived.Test.YtoeejepamlnkkaaFill
namespace Go.Proofs.Ytoeejepamlnkkaa
open Go.RowKit
set_option maxRecDepth 100000

namespace pl
/-- what holds where a line begins at word i, out being the lines ahead: what is left to do, with m spaces ahead -/
def FInv (wd : Int) (a b : Nat) (l : List ByteArray) (i m : Nat) (out : List ByteArray) : Prop :=
  ∃ F, l.length - i < F ∧ fillS wd b (l.length + 1) a l = (fillS wd b F m (l.drop i)).map (out ++ ·)
theorem finv_start (wd : Int) (a b : Nat) (l : List ByteArray) : FInv wd a b l 0 a [] := ⟨l.length + 1, by omega, by simp⟩
theorem drop_first {l : List ByteArray} {i : Nat} {x : ByteArray} (hi : i < l.length) (hx : nth l i = x) : szJ ((l.drop i).take 1) = x.size := by
  rw [List.drop_eq_getElem_cons hi, ← nth_eq hi, hx, List.take_succ_cons, List.take_zero, szJ_one]
theorem finv_none {wd : Int} {a b : Nat} {l : List ByteArray} {i m : Nat} {out : List ByteArray} {x : ByteArray} (h : FInv wd a b l i m out) (hi : i < l.length) (hx : nth l i = x) (hl : wd < ((m + x.size : Nat) : Int)) : fillS wd b (l.length + 1) a l = none := by
  obtain ⟨F, hF, e⟩ := h
  obtain ⟨F, rfl⟩ : ∃ F', F = F' + 1 := ⟨F - 1, by omega⟩
  have h0 : cfit (wd - m) (l.drop i) = 0 := by
    refine cfit_at (by rw [List.length_drop]; omega) (fun h => absurd h (by omega)) ?_
    rw [Nat.zero_add, drop_first hi hx]; omega
  rw [e, fillS_none (by intro e2; have := congrArg List.length e2; rw [List.length_drop, List.length_nil] at this; omega) h0]; rfl
/-- a line is open: it holds the words i .. j, and m spaces ahead -/
def NInv (wd : Int) (l : List ByteArray) (i m j : Nat) (now : ByteArray) : Prop :=
  i < j ∧ j ≤ l.length ∧ now = spB m ++ jline ((l.drop i).take (j - i)) ∧ (szJ ((l.drop i).take (j - i)) : Int) ≤ wd - m
theorem ninv_start {wd : Int} {l : List ByteArray} {i m : Nat} {x : ByteArray} (hi : i < l.length) (hx : nth l i = x) (hl : ¬ wd < ((m + x.size : Nat) : Int)) : NInv wd l i m (i + 1) (spB m ++ x) := by
  have e : i + 1 - i = 1 := by omega
  refine ⟨by omega, by omega, ?_, ?_⟩
  · rw [e, List.drop_eq_getElem_cons hi, ← nth_eq hi, hx, List.take_succ_cons, List.take_zero]
    unfold jline; rw [joinB_one]
  · rw [e, drop_first hi hx]; omega
theorem ninv_size {wd : Int} {l : List ByteArray} {i m j : Nat} {now : ByteArray} (h : NInv wd l i m j now) : now.size = m + szJ ((l.drop i).take (j - i)) := by
  rw [h.2.2.1, ByteArray.size_append, spB_size, jline_size]
theorem ninv_take {l : List ByteArray} {i j : Nat} {x : ByteArray} (hij : i < j) (hj : j < l.length) (hx : nth l j = x) : (l.drop i).take (j + 1 - i) = (l.drop i).take (j - i) ++ [x] := by
  rw [show j + 1 - i = (j - i) + 1 by omega, List.take_succ_eq_append_getElem (by rw [List.length_drop]; omega), List.getElem_drop]
  have e : i + (j - i) = j := by omega
  simp only [e]
  rw [← nth_eq hj, hx]
theorem ninv_ne {l : List ByteArray} {i j : Nat} (hij : i < j) (hj : j ≤ l.length) : (l.drop i).take (j - i) ≠ [] := by
  intro e
  have := congrArg List.length e
  rw [List.length_take, List.length_drop, List.length_nil] at this; omega
theorem ninv_more {wd : Int} {l : List ByteArray} {i m j : Nat} {now x : ByteArray} (h : NInv wd l i m j now) (hj : j < l.length) (hx : nth l j = x) (hf : ((now.size + 1 + x.size : Nat) : Int) ≤ wd) : NInv wd l i m (j + 1) (now ++ ⟨#[32]⟩ ++ x) := by
  have hz := ninv_size h
  obtain ⟨h1, h2, h3, h4⟩ := h
  have hne := ninv_ne h1 h2
  refine ⟨by omega, by omega, ?_, ?_⟩
  · rw [ninv_take h1 hj hx]
    unfold jline
    rw [joinB_snoc hne, h3]
    apply ba_ext
    simp only [ByteArray.data_append, Array.toList_append, List.append_assoc]
    rfl
  · rw [ninv_take h1 hj hx, szJ_snoc hne]; omega
/-- the line is closed -/
theorem finv_next {wd : Int} {a b : Nat} {l : List ByteArray} {i m j : Nat} {out : List ByteArray} {now : ByteArray} (h : FInv wd a b l i m out) (hn : NInv wd l i m j now) (he : j = l.length ∨ (∃ x, j < l.length ∧ nth l j = x ∧ ¬ ((now.size + 1 + x.size : Nat) : Int) ≤ wd)) : FInv wd a b l j b (out ++ [now]) := by
  have hz := ninv_size hn
  obtain ⟨F, hF, e⟩ := h
  obtain ⟨h1, h2, h3, h4⟩ := hn
  obtain ⟨F, rfl⟩ : ∃ F', F = F' + 1 := ⟨F - 1, by omega⟩
  have hc : cfit (wd - m) (l.drop i) = j - i := by
    rcases he with he | ⟨x, hj, hx, hlong⟩
    · have hl : (l.drop i).length = j - i := by rw [List.length_drop, he]
      rw [← hl]
      refine cfit_all (fun _ => ?_)
      rw [← hl, List.take_length] at h4; exact h4
    · refine cfit_at (by rw [List.length_drop]; omega) (fun _ => h4) ?_
      rw [show j - i + 1 = j + 1 - i by omega, ninv_take h1 hj hx, szJ_snoc (ninv_ne h1 h2)]; omega
  refine ⟨F, by omega, ?_⟩
  rw [e, fillS_some (by omega), hc, List.drop_drop, show i + (j - i) = j by omega, ← h3, Option.map_map]
  congr 1
  funext o
  simp
theorem finv_done {wd : Int} {a b : Nat} {l : List ByteArray} {m : Nat} {out : List ByteArray} (h : FInv wd a b l l.length m out) : fillS wd b (l.length + 1) a l = some out := by
  obtain ⟨F, _, e⟩ := h
  rw [e, List.drop_length, fillS_nil]; simp
theorem ninv_bd {wd : Int} {l : List ByteArray} {i m j : Nat} {now : ByteArray} (h : NInv wd l i m j now) : (now.size : Int) ≤ wd := by
  have := ninv_size h
  have := h.2.2.2
  omega
end pl

set_option maxHeartbeats 4000000 in
theorem sFill_ok (l : List ByteArray) (wd : Int) (a b : Nat) (v : Value) (w : World) (hr : RStrs w v l) (hv : pl.vWords l = true) (hin : pl.inR wd 1 120 = true) (ha : a ≤ 10) (hb : b ≤ 10) :
    Calls Try.prog 13 #[v, .int .i64 wd, .int .i64 a, .int .i64 b] w fun e w' => ∃ v', e = .returned (.tuple #[v', .bool (pl.fillOK l wd a b)]) ∧ OStrs w.heap.size w' v' (pl.fillR l wd a b) ∧ Below w.heap.size w w' := by
  obtain ⟨i0, hi, hz0, hz1, hz2⟩ := info_parts infoS
  have h9 := (pl.vWords_parts hv).1
  have hlen : Hid (l.length ≤ maxLen) := Lib.hid (by unfold maxLen; omega)
  have h12 : Hid (∀ x ∈ l, x.size ≤ 12) := Lib.hid (pl.words_12 hv)
  have hsz : Hid (∀ i, i < l.length → (nth l i).size ≤ 12) := Lib.hid (fun i hi => by rw [nth_eq hi]; exact h12.out _ (List.getElem_mem hi))
  have hia := Lib.hid (pl.inR_true (n := (a : Int)) (lo := 0) (hi := 10) (by omega) (by omega))
  have hib := Lib.hid (pl.inR_true (n := (b : Int)) (lo := 0) (hi := 10) (by omega) (by omega))
  obtain ⟨hw1, hw2⟩ := pl.inR_parts hin
  have HV := Lib.hid hv
  have HI := Lib.hid hin
  have FN : Hid (pl.fillS wd b (l.length + 1) a l = none → pl.fillOK l wd a b = false ∧ pl.fillR l wd a b = []) := Lib.hid (fun h => by
    have h1 := pl.fillOK_no (l := l) (wd := wd) (a := (a : Int)) (b := (b : Int)) (.inr (.inr (.inr (.inr h))))
    exact ⟨h1, pl.fillR_no h1⟩)
  have FS : Hid (∀ o, pl.fillS wd b (l.length + 1) a l = some o → pl.fillOK l wd a b = true ∧ pl.fillR l wd a b = o) := Lib.hid (fun o h => pl.fillOK_yes HV.out HI.out hia.out hib.out h)
  obtain ⟨n, hn⟩ : ∃ n, n = l.length := ⟨_, rfl⟩
  have HN := Lib.hid hn
  have hrr := Lib.hid hr
  obtain ⟨a0, cap0, rfl⟩ := hr.slice
  rw [← hn] at h9 hrr ⊢
  clear hn hr hv hin
  obtain ⟨A, HA⟩ : ∃ A, Hid (pl.spB a = A) := ⟨_, Lib.hid rfl⟩
  obtain ⟨R, HR⟩ : ∃ R, Hid (pl.spB b = R) := ⟨_, Lib.hid rfl⟩
  have hAz := pl.spB_size a
  have hRz := pl.spB_size b
  rw [HA.out] at hAz
  rw [HR.out] at hRz
  have hA10 : A.size ≤ 10 := by omega
  have hR10 : R.size ≤ 10 := by omega
  have HAz := Lib.hid hAz
  have HRz := Lib.hid hRz
  clear hAz hRz
  go_enter Try.func13, Try.ntmps13
  go_wp2_with fail
  refine (svalidWords_any l _ _ hrr.out hlen.out (fun i hi => Nat.le_trans (hsz.out i hi) (by unfold maxLen; omega))).mono ?_
  rintro e w' ⟨rfl, rfl⟩
  rw [HV.out]
  go_wp2_with fail
  refine (inRange_any _ _ _ _).mono ?_
  rintro e w' ⟨rfl, rfl⟩
  rw [HI.out]
  go_wp2_with fail
  refine (inRange_any _ _ _ _).mono ?_
  rintro e w' ⟨rfl, rfl⟩
  rw [hia.out]
  go_wp2_with fail
  refine (inRange_any _ _ _ _).mono ?_
  rintro e w' ⟨rfl, rfl⟩
  rw [hib.out]
  go_wp2_with fail
  go_loopw [10, 11] (fun ov iv wr => ∃ (i m : Nat) (out : List ByteArray), i ≤ n ∧ iv = .int .i64 i ∧ OStrs w.heap.size wr ov out ∧ Below w.heap.size w wr ∧ out.length ≤ i ∧ Hid (pl.FInv wd a b l i m out) ∧ Hid ((out = [] ∧ m = a) ∨ (0 < out.length ∧ m = b))) (fun _ iv _ => n - (intOf iv).toNat)
  case atStart => exact ⟨0, a, [], Nat.zero_le _, rfl, World.ownsRow_made _ _ _ (Nat.le_refl _) (by unfold maxLen; omega) rfl, (Below.refl _ _).alloc (Nat.le_refl _) _, Nat.le_refl _, Lib.hid (pl.finv_start wd a b l), Lib.hid (.inl ⟨rfl, rfl⟩)⟩
  case round =>
    obtain ⟨i, m, out, hin, rfl, hown, hbel, hol, hinv, hm⟩ := hrel
    by_cases hlt : i < n
    · have hil : Hid (i < l.length) := Lib.hid (by rw [← HN.out]; exact hlt)
      obtain ⟨b1, o1, rfl, hx⟩ := hrr.out.at HN.out hbel hlt
      have hxm := hsz.out i hil.out
      obtain ⟨x, HX⟩ : ∃ x, Hid (nth l i = x) := ⟨_, Lib.hid rfl⟩
      rw [HX.out] at hx hxm
      obtain ⟨S, HS⟩ : ∃ S, Hid (pl.spB m = S) := ⟨_, Lib.hid rfl⟩
      have hSz : Hid (S.size = m) := Lib.hid (by rw [← HS.out]; exact pl.spB_size m)
      have hm10 : m ≤ 10 := by rcases hm.out with ⟨_, h⟩ | ⟨_, h⟩ <;> omega
      have hS10 : S.size ≤ 10 := by rw [hSz.out]; exact hm10
      obtain ⟨q, HQ⟩ : ∃ q, Hid (out.length = q) := ⟨_, Lib.hid rfl⟩
      have hown2 := hown
      obtain ⟨ov, cov, rfl⟩ := hown.reads.slice
      rw [HQ.out] at hown2 hol ⊢
      have HO := Lib.hid hown
      have HB := Lib.hid hbel
      rw [HQ.out] at HO
      clear hown hown2 hbel
      have hcase : Hid ((q = 0 ∧ S = A) ∨ (0 < q ∧ S = R)) := Lib.hid (by
        rcases hm.out with ⟨h1, h2⟩ | ⟨h1, h2⟩
        · exact .inl ⟨by rw [← HQ.out, h1]; rfl, by rw [← HS.out, h2, HA.out]⟩
        · exact .inr ⟨by rw [← HQ.out]; exact h1, by rw [← HS.out, h2, HR.out]⟩)
      rcases hcase.out with ⟨hq, hSA⟩ | ⟨hq, hSR⟩
      · subst hSA
        have hq0 : ¬ (0 : Int) < (q : Int) := by omega
        clear hq
        by_cases hlong : wd < (S.size : Int) + (x.size : Int)
        · have hres := Lib.hid (FN.out (pl.finv_none hinv.out hil.out HX.out (by have := hSz.out; omega)))
          go_wp2_with fail
          refine (sspaces_at _ a (by first | rfl | go_num) _ (by omega)).mono ?_
          rintro e w' ⟨rfl, rfl⟩
          rw [HA.out]
          go_wp2_with fail
          go_ret2
          exact ⟨_, by rw [hres.out.1]; rfl, by rw [hres.out.2]; exact OStrs.nil _ _, HB.out⟩
        · have hst : Hid (pl.NInv wd l i m (i + 1) (S ++ x)) := Lib.hid (by rw [← HS.out]; exact pl.ninv_start hil.out HX.out (by have := hSz.out; omega))
          go_wp2_with fail
          refine (sspaces_at _ a (by first | rfl | go_num) _ (by omega)).mono ?_
          rintro e w' ⟨rfl, rfl⟩
          rw [HA.out]
          go_wp2_with fail
          go_loop [11, 12] (fun jv nv => ∃ (j : Nat) (now : ByteArray), j ≤ n ∧ jv = .int .i64 j ∧ nv = .string now ∧ Hid (pl.NInv wd l i m j now)) (fun jv _ => n - (intOf jv).toNat)
          case atStart => exact ⟨i + 1, _, by omega, by go_num, rfl, hst⟩
          case round =>
            obtain ⟨j, now, hj, rfl, rfl, hni⟩ := hrel
            have hnb0 := pl.ninv_bd hni.out
            by_cases hjl : j < n
            · obtain ⟨b2, o2, e, hy⟩ := hrr.out.at HN.out HB.out hjl
              simp only [Option.some.injEq, Addr.mk.injEq, and_true] at e
              obtain ⟨rfl, rfl⟩ := e
              have hjlen : Hid (j < l.length) := Lib.hid (by rw [← HN.out]; exact hjl)
              have hym := hsz.out j hjlen.out
              obtain ⟨y, HY⟩ : ∃ y, Hid (nth l j = y) := ⟨_, Lib.hid rfl⟩
              rw [HY.out] at hy hym
              by_cases hf : (now.size : Int) + 1 + (y.size : Int) ≤ wd
              · have hnn := Lib.hid (pl.ninv_more hni.out hjlen.out HY.out (by omega))
                clear hni
                go_wp2_with fail
                go_round
                case rel => exact ⟨j + 1, _, by omega, by go_num, rfl, hnn⟩
                case measure => simp [intOf]; omega
              · clear hnb0
                have hnx : Hid (pl.FInv wd a b l j b (out ++ [now])) := Lib.hid (pl.finv_next hinv.out hni.out (.inr ⟨y, hjlen.out, HY.out, by omega⟩))
                have hnb := pl.ninv_bd hni.out
                have hij := hni.out.1
                clear hni hinv
                go_wp2_with (at_builtin; refine wpList_append_own _ rfl _ _ 23 rfl w.heap.size 9 i0 (.string ByteArray.empty) 1 16 Try.underlying23 hi hz0 hz1 hz2 rfl (by decide) _ _ _ rfl (World.ownsRow.alloc HO.out _) ⟨wr.heap.size, 0, none⟩ 1 1 [.string now] rfl rfl ?ka1 ?ka2 ?ka3 ?ka4 ?ka5 ?_)
                case ka2 => first | rfl | (intro u hu; simp at hu; subst hu; rfl)
                case ka3 => rw [HQ.out]; unfold maxLen; omega
                case ka4 => rw [HQ.out]; omega
                case ka5 => have := HB.out.size; simp; omega
                intro v' w1 hown' hgrow _
                have hb1 : Below w.heap.size w w1 := (HB.out.alloc HB.out.size _).grown hgrow (by have := HB.out.size; simp; omega) (fun g hg => (World.ownsRow.lt HO.out g hg).1)
                have hown1 := OStrs.push1 hown'
                clear hown' hgrow
                go_wp2
                go_roundw
                case rel => exact ⟨j, b, _, by omega, rfl, hown1, hb1, by have := HQ.out; simp; omega, hnx, Lib.hid (.inr ⟨by simp, rfl⟩)⟩
                case measure => simp [intOf]; omega
            · obtain rfl : j = n := by omega
              clear hnb0
              have hnx : Hid (pl.FInv wd a b l j b (out ++ [now])) := Lib.hid (pl.finv_next hinv.out hni.out (.inl HN.out))
              have hnb := pl.ninv_bd hni.out
              have hij := hni.out.1
              clear hni hinv
              go_wp2_with (at_builtin; refine wpList_append_own _ rfl _ _ 23 rfl w.heap.size 9 i0 (.string ByteArray.empty) 1 16 Try.underlying23 hi hz0 hz1 hz2 rfl (by decide) _ _ _ rfl (World.ownsRow.alloc HO.out _) ⟨wr.heap.size, 0, none⟩ 1 1 [.string now] rfl rfl ?kb1 ?kb2 ?kb3 ?kb4 ?kb5 ?_)
              case kb2 => first | rfl | (intro u hu; simp at hu; subst hu; rfl)
              case kb3 => rw [HQ.out]; unfold maxLen; omega
              case kb4 => rw [HQ.out]; omega
              case kb5 => have := HB.out.size; simp; omega
              intro v' w1 hown' hgrow _
              have hb1 : Below w.heap.size w w1 := (HB.out.alloc HB.out.size _).grown hgrow (by have := HB.out.size; simp; omega) (fun g hg => (World.ownsRow.lt HO.out g hg).1)
              have hown1 := OStrs.push1 hown'
              clear hown' hgrow
              go_wp2
              go_roundw
              case rel => exact ⟨j, b, _, by omega, rfl, hown1, hb1, by have := HQ.out; simp; omega, hnx, Lib.hid (.inr ⟨by simp, rfl⟩)⟩
              case measure => simp [intOf]; omega
      · subst hSR
        have hq0 : (0 : Int) < (q : Int) := by omega
        clear hq
        by_cases hlong : wd < (S.size : Int) + (x.size : Int)
        · have hres := Lib.hid (FN.out (pl.finv_none hinv.out hil.out HX.out (by have := hSz.out; omega)))
          go_wp2_with fail
          refine (sspaces_at _ a (by first | rfl | go_num) _ (by omega)).mono ?_
          rintro e w' ⟨rfl, rfl⟩
          rw [HA.out]
          go_wp2_with fail
          refine (sspaces_at _ b (by first | rfl | go_num) _ (by omega)).mono ?_
          rintro e w' ⟨rfl, rfl⟩
          rw [HR.out]
          go_wp2_with fail
          go_ret2
          exact ⟨_, by rw [hres.out.1]; rfl, by rw [hres.out.2]; exact OStrs.nil _ _, HB.out⟩
        · have hst : Hid (pl.NInv wd l i m (i + 1) (S ++ x)) := Lib.hid (by rw [← HS.out]; exact pl.ninv_start hil.out HX.out (by have := hSz.out; omega))
          go_wp2_with fail
          refine (sspaces_at _ a (by first | rfl | go_num) _ (by omega)).mono ?_
          rintro e w' ⟨rfl, rfl⟩
          rw [HA.out]
          go_wp2_with fail
          refine (sspaces_at _ b (by first | rfl | go_num) _ (by omega)).mono ?_
          rintro e w' ⟨rfl, rfl⟩
          rw [HR.out]
          go_wp2_with fail
          go_loop [11, 12] (fun jv nv => ∃ (j : Nat) (now : ByteArray), j ≤ n ∧ jv = .int .i64 j ∧ nv = .string now ∧ Hid (pl.NInv wd l i m j now)) (fun jv _ => n - (intOf jv).toNat)
          case atStart => exact ⟨i + 1, _, by omega, by go_num, rfl, hst⟩
          case round =>
            obtain ⟨j, now, hj, rfl, rfl, hni⟩ := hrel
            have hnb0 := pl.ninv_bd hni.out
            by_cases hjl : j < n
            · obtain ⟨b2, o2, e, hy⟩ := hrr.out.at HN.out HB.out hjl
              simp only [Option.some.injEq, Addr.mk.injEq, and_true] at e
              obtain ⟨rfl, rfl⟩ := e
              have hjlen : Hid (j < l.length) := Lib.hid (by rw [← HN.out]; exact hjl)
              have hym := hsz.out j hjlen.out
              obtain ⟨y, HY⟩ : ∃ y, Hid (nth l j = y) := ⟨_, Lib.hid rfl⟩
              rw [HY.out] at hy hym
              by_cases hf : (now.size : Int) + 1 + (y.size : Int) ≤ wd
              · have hnn := Lib.hid (pl.ninv_more hni.out hjlen.out HY.out (by omega))
                clear hni
                go_wp2_with fail
                go_round
                case rel => exact ⟨j + 1, _, by omega, by go_num, rfl, hnn⟩
                case measure => simp [intOf]; omega
              · clear hnb0
                have hnx : Hid (pl.FInv wd a b l j b (out ++ [now])) := Lib.hid (pl.finv_next hinv.out hni.out (.inr ⟨y, hjlen.out, HY.out, by omega⟩))
                have hnb := pl.ninv_bd hni.out
                have hij := hni.out.1
                clear hni hinv
                go_wp2_with (at_builtin; refine wpList_append_own _ rfl _ _ 23 rfl w.heap.size 9 i0 (.string ByteArray.empty) 1 16 Try.underlying23 hi hz0 hz1 hz2 rfl (by decide) _ _ _ rfl (World.ownsRow.alloc HO.out _) ⟨wr.heap.size, 0, none⟩ 1 1 [.string now] rfl rfl ?kc1 ?kc2 ?kc3 ?kc4 ?kc5 ?_)
                case kc2 => first | rfl | (intro u hu; simp at hu; subst hu; rfl)
                case kc3 => rw [HQ.out]; unfold maxLen; omega
                case kc4 => rw [HQ.out]; omega
                case kc5 => have := HB.out.size; simp; omega
                intro v' w1 hown' hgrow _
                have hb1 : Below w.heap.size w w1 := (HB.out.alloc HB.out.size _).grown hgrow (by have := HB.out.size; simp; omega) (fun g hg => (World.ownsRow.lt HO.out g hg).1)
                have hown1 := OStrs.push1 hown'
                clear hown' hgrow
                go_wp2
                go_roundw
                case rel => exact ⟨j, b, _, by omega, rfl, hown1, hb1, by have := HQ.out; simp; omega, hnx, Lib.hid (.inr ⟨by simp, rfl⟩)⟩
                case measure => simp [intOf]; omega
            · obtain rfl : j = n := by omega
              clear hnb0
              have hnx : Hid (pl.FInv wd a b l j b (out ++ [now])) := Lib.hid (pl.finv_next hinv.out hni.out (.inl HN.out))
              have hnb := pl.ninv_bd hni.out
              have hij := hni.out.1
              clear hni hinv
              go_wp2_with (at_builtin; refine wpList_append_own _ rfl _ _ 23 rfl w.heap.size 9 i0 (.string ByteArray.empty) 1 16 Try.underlying23 hi hz0 hz1 hz2 rfl (by decide) _ _ _ rfl (World.ownsRow.alloc HO.out _) ⟨wr.heap.size, 0, none⟩ 1 1 [.string now] rfl rfl ?kd1 ?kd2 ?kd3 ?kd4 ?kd5 ?_)
              case kd2 => first | rfl | (intro u hu; simp at hu; subst hu; rfl)
              case kd3 => rw [HQ.out]; unfold maxLen; omega
              case kd4 => rw [HQ.out]; omega
              case kd5 => have := HB.out.size; simp; omega
              intro v' w1 hown' hgrow _
              have hb1 : Below w.heap.size w w1 := (HB.out.alloc HB.out.size _).grown hgrow (by have := HB.out.size; simp; omega) (fun g hg => (World.ownsRow.lt HO.out g hg).1)
              have hown1 := OStrs.push1 hown'
              clear hown' hgrow
              go_wp2
              go_roundw
              case rel => exact ⟨j, b, _, by omega, rfl, hown1, hb1, by have := HQ.out; simp; omega, hnx, Lib.hid (.inr ⟨by simp, rfl⟩)⟩
              case measure => simp [intOf]; omega
    · obtain rfl : i = n := by omega
      have hres := Lib.hid (FS.out out (pl.finv_done (m := m) (by have := hinv.out; rw [HN.out] at this; exact this)))
      go_wp2_with fail
      go_ret2
      exact ⟨_, by rw [hres.out.1]; rfl, by rw [hres.out.2]; exact hown, hbel⟩
/-- the conditions are checked in order: where one fails, there is nothing -/
theorem sFill_checks (l : List ByteArray) (wd a b : Int) (v : Value) (w : World) (hl : RStrs w v l) (hlen : l.length ≤ maxLen) (hsz : ∀ i, i < l.length → (nth l i).size ≤ maxLen)
    (h : pl.vWords l = false ∨ (pl.vWords l = true ∧ pl.inR wd 1 120 = false) ∨ (pl.vWords l = true ∧ pl.inR wd 1 120 = true ∧ pl.inR a 0 10 = false) ∨ (pl.vWords l = true ∧ pl.inR wd 1 120 = true ∧ pl.inR a 0 10 = true ∧ pl.inR b 0 10 = false)) :
    Calls Try.prog 13 #[v, .int .i64 wd, .int .i64 a, .int .i64 b] w fun e w' => e = .returned (.tuple #[.slice none 0 0, .bool false]) ∧ w = w' := by
  rcases h with h1 | ⟨h1, h2⟩ | ⟨h1, h2, h3⟩ | ⟨h1, h2, h3, h4⟩
  · go_enter Try.func13, Try.ntmps13
    go_wp2_with fail
    refine (svalidWords_any l _ _ hl hlen hsz).mono ?_
    rintro e w' ⟨rfl, rfl⟩
    rw [h1]
    go_wp2_with fail
    go_ret2
    exact ⟨rfl, rfl⟩
  · go_enter Try.func13, Try.ntmps13
    go_wp2_with fail
    refine (svalidWords_any l _ _ hl hlen hsz).mono ?_
    rintro e w' ⟨rfl, rfl⟩
    rw [h1]
    go_wp2_with fail
    refine (inRange_any _ _ _ _).mono ?_
    rintro e w' ⟨rfl, rfl⟩
    rw [h2]
    go_wp2_with fail
    go_ret2
    exact ⟨rfl, rfl⟩
  · go_enter Try.func13, Try.ntmps13
    go_wp2_with fail
    refine (svalidWords_any l _ _ hl hlen hsz).mono ?_
    rintro e w' ⟨rfl, rfl⟩
    rw [h1]
    go_wp2_with fail
    refine (inRange_any _ _ _ _).mono ?_
    rintro e w' ⟨rfl, rfl⟩
    rw [h2]
    go_wp2_with fail
    refine (inRange_any _ _ _ _).mono ?_
    rintro e w' ⟨rfl, rfl⟩
    rw [h3]
    go_wp2_with fail
    go_ret2
    exact ⟨rfl, rfl⟩
  · go_enter Try.func13, Try.ntmps13
    go_wp2_with fail
    refine (svalidWords_any l _ _ hl hlen hsz).mono ?_
    rintro e w' ⟨rfl, rfl⟩
    rw [h1]
    go_wp2_with fail
    refine (inRange_any _ _ _ _).mono ?_
    rintro e w' ⟨rfl, rfl⟩
    rw [h2]
    go_wp2_with fail
    refine (inRange_any _ _ _ _).mono ?_
    rintro e w' ⟨rfl, rfl⟩
    rw [h3]
    go_wp2_with fail
    refine (inRange_any _ _ _ _).mono ?_
    rintro e w' ⟨rfl, rfl⟩
    rw [h4]
    go_wp2_with fail
    go_ret2
    exact ⟨rfl, rfl⟩

theorem sFill_any (l : List ByteArray) (wd a b : Int) (v : Value) (w : World) (hl : RStrs w v l) (hlen : l.length ≤ maxLen) (hsz : ∀ i, i < l.length → (nth l i).size ≤ maxLen) :
    Calls Try.prog 13 #[v, .int .i64 wd, .int .i64 a, .int .i64 b] w fun e w' => ∃ v', e = .returned (.tuple #[v', .bool (pl.fillOK l wd a b)]) ∧ OStrs w.heap.size w' v' (pl.fillR l wd a b) ∧ Below w.heap.size w w' := by
  have key : ∀ (_ : pl.fillOK l wd a b = false) (_ : Calls Try.prog 13 #[v, .int .i64 wd, .int .i64 a, .int .i64 b] w fun e w' => e = .returned (.tuple #[.slice none 0 0, .bool false]) ∧ w = w'),
      Calls Try.prog 13 #[v, .int .i64 wd, .int .i64 a, .int .i64 b] w fun e w' => ∃ v', e = .returned (.tuple #[v', .bool (pl.fillOK l wd a b)]) ∧ OStrs w.heap.size w' v' (pl.fillR l wd a b) ∧ Below w.heap.size w w' := by
    intro h1 h2
    refine h2.mono ?_
    rintro e w' ⟨rfl, rfl⟩
    exact ⟨_, by rw [h1], by rw [pl.fillR_no h1]; exact OStrs.nil _ _, Below.refl _ _⟩
  by_cases h1 : pl.vWords l = true
  · by_cases h2 : pl.inR wd 1 120 = true
    · by_cases h3 : pl.inR a 0 10 = true
      · by_cases h4 : pl.inR b 0 10 = true
        · obtain ⟨h3a, h3b⟩ := pl.inR_parts h3
          obtain ⟨h4a, h4b⟩ := pl.inR_parts h4
          obtain ⟨a, rfl⟩ := Int.eq_ofNat_of_zero_le h3a
          obtain ⟨b, rfl⟩ := Int.eq_ofNat_of_zero_le h4a
          exact sFill_ok l wd a b v w hl h1 h2 (by omega) (by omega)
        · have h4' : pl.inR b 0 10 = false := by simpa using h4
          exact key (pl.fillOK_no (.inr (.inr (.inr (.inl h4'))))) (sFill_checks l wd a b v w hl hlen hsz (.inr (.inr (.inr ⟨h1, h2, h3, h4'⟩))))
      · have h3' : pl.inR a 0 10 = false := by simpa using h3
        exact key (pl.fillOK_no (.inr (.inr (.inl h3')))) (sFill_checks l wd a b v w hl hlen hsz (.inr (.inr (.inl ⟨h1, h2, h3'⟩))))
    · have h2' : pl.inR wd 1 120 = false := by simpa using h2
      exact key (pl.fillOK_no (.inr (.inl h2'))) (sFill_checks l wd a b v w hl hlen hsz (.inr (.inl ⟨h1, h2'⟩)))
  · have h1' : pl.vWords l = false := by simpa using h1
    exact key (pl.fillOK_no (.inl h1')) (sFill_checks l wd a b v w hl hlen hsz (.inl h1'))
end Go.Proofs.Ytoeejepamlnkkaa
