/- Contracts: WaysOf of both sides. -/
import Derived.Test.YtfajllfedhifkaaWays
import Derived.Test.YtfajllfedhifkaaSub
import Derived.StillTailTactics
namespace Go.Proofs.Ytfajllfedhifkaa
open Go.RowKit
set_option maxRecDepth 100000

namespace pl
theorem waysR_no {l : List ByteArray} {wd : Int} (h : vWords l = false ∨ inR wd 1 120 = false) : waysR l wd = -1 := by
  unfold waysR
  rcases h with h | h <;> simp [h]
theorem waysR_yes {l : List ByteArray} {wd : Int} (h1 : vWords l = true) (h2 : inR wd 1 120 = true) : waysR l wd = (wF wd l : Int) := by simp [waysR, h1, h2]
/-- what the numbers tell behind the words from j on -/
def WsInv (wd : Int) (l : List ByteArray) (j : Nat) (zs : List Int) : Prop := zs.length = l.length + 1 ∧ (∀ t, j ≤ t → t ≤ l.length → zs[t]? = some ((wF wd (l.drop t) : Nat) : Int)) ∧ ∀ t, t < j → zs[t]? = some 0
def WsIn (wd : Int) (l : List ByteArray) (i k : Nat) (acc : Nat) (zs : List Int) : Prop := zs.length = l.length + 1 ∧ (∀ t, i + 1 ≤ t → t ≤ l.length → zs[t]? = some ((wF wd (l.drop t) : Nat) : Int)) ∧ (∀ t, t < i → zs[t]? = some 0) ∧ zs[i]? = some (acc : Int) ∧ acc + remW wd l i k = wF wd (l.drop i)
theorem wsin_done {wd : Int} {l : List ByteArray} {i k acc : Nat} {zs : List Int} (h : WsIn wd l i k acc zs) (hr : remW wd l i k = 0) : WsInv wd l i zs := by
  obtain ⟨h1, h2, h3, h4, h5⟩ := h
  refine ⟨h1, fun t ht1 ht2 => ?_, h3⟩
  by_cases e : t = i
  · subst e; rw [h4]; congr 2; omega
  · exact h2 t (by omega) ht2
theorem wsin_start {wd : Int} {l : List ByteArray} {i : Nat} {zs : List Int} (h : WsInv wd l (i + 1) zs) (hi : i < l.length) : WsIn wd l i (i + 1) 0 zs :=
  ⟨h.1, h.2.1, fun t ht => h.2.2 t (by omega), h.2.2 i (by omega), by rw [remW_start hi]; omega⟩
theorem wsin_step {wd : Int} {l : List ByteArray} {i k acc : Nat} {zs : List Int} (h : WsIn wd l i k acc zs) (hik : i < k) (hk : k ≤ l.length) (hf : fitL wd (pc l i k) = true) : WsIn wd l i (k + 1) (acc + wF wd (l.drop k)) (zs.set i ((acc : Int) + (wF wd (l.drop k) : Nat))) := by
  obtain ⟨h1, h2, h3, h4, h5⟩ := h
  have hi : i < zs.length := by omega
  refine ⟨by rw [List.length_set]; exact h1, fun t ht1 ht2 => by rw [List.getElem?_set_ne (by omega)]; exact h2 t ht1 ht2, fun t ht => by rw [List.getElem?_set_ne (by omega)]; exact h3 t ht, by rw [List.getElem?_set_self hi]; simp, ?_⟩
  rw [remW_step (by omega) hk hf] at h5
  omega
end pl

theorem iWaysOf_any (l : List ByteArray) (wd : Int) (v : Value) (w : World) (hl : LStrs w v l) (hlen : l.length ≤ maxLen) (hsz : ∀ i, i < l.length → (nth l i).size ≤ maxLen) :
    Calls Try.prog 35 #[v, .int .i64 wd] w fun e w' => e = .returned (.int .i64 (pl.waysR l wd)) ∧ Below w.heap.size w w' := by
  by_cases hv : pl.vWords l = true
  · by_cases hin : pl.inR wd 1 120 = true
    · rw [pl.waysR_yes hv hin, ← pl.waysN_eq]
      exact callsIn_wide.1 (iWaysOf_ok 5 (by omega) l wd v w hl hlen hsz hv hin)
    · have hin' : pl.inR wd 1 120 = false := by simpa using hin
      have hb := Lib.hid (pl.waysR_no (l := l) (wd := wd) (.inr hin'))
      clear hin
      go_enter Try.func35, Try.ntmps35
      go_wp2_with fail
      refine (iValidWords_any l _ _ hl.1 hlen hsz).mono ?_
      rintro e w1 ⟨rfl, hb1⟩
      rw [hv]
      go_wp2_with fail
      refine (isWidth_any _ _).mono ?_
      rintro e w' ⟨rfl, rfl⟩
      rw [hin']
      go_wp2_with fail
      go_ret
      exact ⟨by rw [hb.out]; rfl, hb1⟩
  · have hv' : pl.vWords l = false := by simpa using hv
    have hb := Lib.hid (pl.waysR_no (l := l) (wd := wd) (.inl hv'))
    clear hv
    go_enter Try.func35, Try.ntmps35
    go_wp2_with fail
    refine (iValidWords_any l _ _ hl.1 hlen hsz).mono ?_
    rintro e w1 ⟨rfl, hb1⟩
    rw [hv']
    go_wp2_with fail
    go_ret
    exact ⟨by rw [hb.out]; rfl, hb1⟩

set_option maxHeartbeats 4000000 in
theorem sWaysOf_any (l : List ByteArray) (wd : Int) (v : Value) (w : World) (hl : LStrs w v l) (hlen : l.length ≤ maxLen) (hsz : ∀ i, i < l.length → (nth l i).size ≤ maxLen) :
    Calls Try.prog 36 #[v, .int .i64 wd] w fun e w' => e = .returned (.int .i64 (pl.waysR l wd)) ∧ Below w.heap.size w w' := by
  obtain ⟨i0, hi, hz0, hz1, hz2⟩ := info_parts infoI
  by_cases hv : pl.vWords l = true
  · by_cases hin : pl.inR wd 1 120 = true
    · have hres := Lib.hid (pl.waysR_yes hv hin)
      have hwd := pl.inR_parts hin
      have H12 := Lib.hid (pl.words_12 hv)
      obtain ⟨hr, a0, cap0, rfl, hcap⟩ := hl
      obtain ⟨N, hN⟩ : ∃ N, N = l.length := ⟨_, rfl⟩
      have h9 : N ≤ 9 := by rw [hN]; exact (pl.vWords_parts hv).1
      rw [← hN] at hr hcap ⊢
      have HN := Lib.hid hN
      have HR := Lib.hid hr
      have HLn := Lib.hid hlen
      have HSZ := Lib.hid hsz
      have hwle : Hid (∀ t, pl.wF wd (l.drop t) ≤ 256) := Lib.hid (fun t => pl.wF_le wd _ (by rw [List.length_drop, ← HN.out]; omega))
      clear hr hlen hsz hN
      go_enter Try.func36, Try.ntmps36
      go_wp2_with fail
      refine (svalidWords_any l _ _ HR.out HLn.out HSZ.out).mono ?_
      rintro e w' ⟨rfl, rfl⟩
      rw [hv]
      go_wp2_with fail
      refine (inRange_any _ _ _ _).mono ?_
      rintro e w' ⟨rfl, rfl⟩
      rw [hin]
      go_wp2_with (at_make; refine wpList_make_full _ rfl _ _ 61 rfl w.heap.size 3 i0 (.int .i64 0) 1 Try.underlying61 hi hz0 hz1 _ _ _ _ (N + 1) (by first | rfl | (simp only [Int.natCast_add, Int.natCast_one])) rfl rfl rfl ?b1 ?b2 ?b3 ?_)
      case b1 => rw [hz2]; omega
      case b2 => unfold maxLen; omega
      case b3 => exact Nat.le_refl _
      intro w1 hown hgrow
      have hb0 : Below w.heap.size w w1 := (Below.refl _ _).grown hgrow (Nat.le_refl _) (fun g hg => by cases hg)
      have hown1 : OInts w.heap.size w1 (.slice (some ⟨w.heap.size, 0, none⟩) (N + 1) (N + 1)) (N + 1) (List.replicate (N + 1) 0) := by
        rw [toList_madeCells_one, ← List.map_replicate] at hown; exact hown
      clear hown hgrow
      have hc0 := ints_cell hown1 (j := N) (by omega) (z := 0) (by rw [List.getElem?_replicate, if_pos (by omega)])
      have hf0 := World.ownsRow.frozenAt hown1 N
      have hown2 := Lib.hid (ints_store (j := N) hown1 1)
      have hb2 := Lib.hid (hb0.setCell (p := ⟨w.heap.size, N, none⟩) (Nat.le_refl _) (.int .i64 1))
      have hst : Hid (pl.WsInv wd l N ((List.replicate (N + 1) 0).set N 1)) := Lib.hid (by
        have hNl := HN.out
        refine ⟨by rw [List.length_set, List.length_replicate, hNl], fun t ht1 ht2 => ?_, fun t ht => ?_⟩
        · obtain rfl : t = N := by omega
          rw [List.getElem?_set_self (by rw [List.length_replicate]; omega), hNl, pl.drop_end]; rfl
        · rw [List.getElem?_set_ne (by omega), List.getElem?_replicate, if_pos (by omega)])
      clear hown1 hb0
      go_wp2_with fail
      go_loopw [7] (fun iv wr => ∃ (j : Nat) (zs : List Int), j ≤ N ∧ iv = .int .i64 ((j : Int) - 1) ∧ Hid (pl.WsInv wd l j zs) ∧ OInts w.heap.size wr (.slice (some ⟨w.heap.size, 0, none⟩) (N + 1) (N + 1)) (N + 1) zs ∧ Below w.heap.size w wr) (fun iv _ => (intOf iv + 1).toNat)
      case atStart => exact ⟨N, _, Nat.le_refl _, rfl, hst, hown2.out, hb2.out⟩
      case round =>
        obtain ⟨j, zs, hj, rfl, hinv, hown, hbel⟩ := hrel
        by_cases hj0 : 0 < j
        · obtain ⟨i, rfl⟩ : ∃ i, j = i + 1 := ⟨j - 1, by omega⟩
          have hs1 := Lib.hid (pl.wsin_start hinv.out (by rw [← HN.out]; omega))
          obtain ⟨b1, o1, rfl, _⟩ := HR.out.at HN.out hbel (k := i) (by omega)
          obtain ⟨W0, rfl⟩ : ∃ W0, W0 = wr := ⟨_, rfl⟩
          rw [show (((i + 1 : Nat) : Int) - 1) = (i : Int) from by omega]
          go_wp2_with fail
          go_loopw [8] (fun kv wr => ∃ (k acc : Nat) (zs : List Int), i + 1 ≤ k ∧ k ≤ N + 1 ∧ kv = .int .i64 k ∧ Hid (pl.WsIn wd l i k acc zs) ∧ OInts w.heap.size wr (.slice (some ⟨w.heap.size, 0, none⟩) (N + 1) (N + 1)) (N + 1) zs ∧ Below w.heap.size w wr) (fun kv _ => N + 1 - (intOf kv).toNat)
          case atStart => exact ⟨i + 1, 0, zs, Nat.le_refl _, by omega, by go_num, hs1, hown, hbel⟩
          case round =>
            obtain ⟨k, acc, zs, hk1, hk2, rfl, hin2, hown, hbel⟩ := hrel
            by_cases hkN : k ≤ N
            · have hRS := Lib.hid (RStrs.sub (c := cap0 - i) (HR.out.below (Nat.le_refl _) hbel) HN.out (show i < k by omega) hkN)
              obtain ⟨J, hJ⟩ : ∃ J, Hid (pl.joinB (pl.pc l i k) ⟨#[32]⟩ = J) := ⟨_, Lib.hid rfl⟩
              have hJs : Hid (J.size = pl.szJ (pl.pc l i k)) := Lib.hid (by rw [← hJ.out]; rfl)
              have hJb : J.size ≤ 117 := by rw [hJs.out]; have := pl.szJ_pc (l := l) (i := i) (k := k) H12.out; have := HN.out; omega
              by_cases hlong : wd < (J.size : Int)
              · have hf : Hid (pl.fitL wd (pl.pc l i k) = false) := Lib.hid (by unfold pl.fitL; rw [← hJs.out]; exact decide_eq_false (by omega))
                have hdn := Lib.hid (pl.wsin_done hin2.out (pl.remW_no hf.out))
                go_wp2_with fail
                refine (sjoin_any (pl.pc l i k) ⟨#[32]⟩ _ _ hRS.out (by rw [pl.pc_len (by rw [← HN.out]; exact hkN)]; omega) (by rw [hJ.out]; omega)).mono ?_
                rintro e w' ⟨rfl, rfl⟩
                rw [hJ.out]
                go_wp2_with fail
                go_roundw
                case rel => exact ⟨i, zs, by omega, by first | rfl | go_num, hdn, hown, hbel⟩
                case measure => first | (simp [intOf]; done) | (simp [intOf]; omega)
              · have hf : Hid (pl.fitL wd (pl.pc l i k) = true) := Lib.hid (by unfold pl.fitL; rw [← hJs.out]; exact decide_eq_true (by omega))
                obtain ⟨F, hF⟩ : ∃ F, Hid (pl.wF wd (l.drop k) = F) := ⟨_, Lib.hid rfl⟩
                have hFb : F ≤ 256 := by rw [← hF.out]; exact hwle.out k
                have haccb : acc ≤ 256 := by have h1 := hin2.out.2.2.2.2; have h2 := hwle.out i; omega
                have hstep : Hid (pl.WsIn wd l i (k + 1) (acc + F) (zs.set i ((acc : Int) + (F : Nat)))) := Lib.hid (by
                  have := pl.wsin_step hin2.out (by omega) (by rw [← HN.out]; exact hkN) hf.out
                  rw [hF.out] at this; exact this)
                go_wp2_with fail
                refine (sjoin_any (pl.pc l i k) ⟨#[32]⟩ _ _ hRS.out (by rw [pl.pc_len (by rw [← HN.out]; exact hkN)]; omega) (by rw [hJ.out]; omega)).mono ?_
                rintro e w' ⟨rfl, rfl⟩
                rw [hJ.out]
                have ci := ints_cell hown (j := i) (by omega) hin2.out.2.2.2.1
                have fi := World.ownsRow.frozenAt hown i
                have ck : wr.cell? ⟨w.heap.size, k, none⟩ = some (.int .i64 F) := by
                  rw [← hF.out]
                  exact ints_cell hown (j := k) (by omega) (hin2.out.2.1 k hk1 (by rw [← HN.out]; exact hkN))
                go_wp2_with fail
                have hiN : (i : Int) < (N : Int) + 1 := by omega
                have hkN1 : (k : Int) < (N : Int) + 1 := by omega
                have ciD : wr.drew.cell? ⟨w.heap.size, i, none⟩ = some (.int .i64 acc) := ci
                have ckD : wr.drew.cell? ⟨w.heap.size, k, none⟩ = some (.int .i64 F) := ck
                have fiD : wr.drew.frozen? ⟨w.heap.size, i, none⟩ = false := fi
                go_still_tail 12, (by kernel_rfl)
                change wpList _ _ _ _ _ wr.drew
                have hownD : OInts w.heap.size wr.drew (.slice (some ⟨w.heap.size, 0, none⟩) (N + 1) (N + 1)) (N + 1) zs := hown
                have hbD : Below w.heap.size w wr.drew := hbel.drew
                clear hown hbel ci ck fi hRS
                generalize wr.drew = w2 at hownD hbD ciD ckD fiD ⊢
                have HO := Lib.hid (ints_store (j := i) hownD ((acc : Int) + (F : Nat)))
                have HB := Lib.hid (hbD.setCell (p := ⟨w.heap.size, i, none⟩) (Nat.le_refl _) (.int .i64 ((acc : Int) + (F : Nat))))
                clear hownD hbD
                go_wp2_with fail
                go_roundw
                case rel => exact ⟨k + 1, acc + F, _, by omega, by omega, by go_num, hstep, HO.out, HB.out⟩
                case measure => simp [intOf]; omega
            · obtain rfl : k = N + 1 := by omega
              have hdn := Lib.hid (pl.wsin_done hin2.out (by rw [HN.out]; exact pl.remW_end))
              go_wp2_with fail
              go_roundw
              case rel => exact ⟨i, zs, by omega, by first | rfl | go_num, hdn, hown, hbel⟩
              case measure => first | (simp [intOf]; done) | (simp [intOf]; omega)
        · obtain rfl : j = 0 := by omega
          have c0 := ints_cell hown (j := 0) (by omega) (hinv.out.2.1 0 (by omega) (by omega))
          rw [List.drop_zero] at c0
          go_wp2_with fail
          go_ret
          exact ⟨by rw [hres.out]; rfl, hbel⟩
    · have hin' : pl.inR wd 1 120 = false := by simpa using hin
      have hb := Lib.hid (pl.waysR_no (l := l) (wd := wd) (.inr hin'))
      clear hin
      go_enter Try.func36, Try.ntmps36
      go_wp2_with fail
      refine (svalidWords_any l _ _ hl.1 hlen hsz).mono ?_
      rintro e w' ⟨rfl, rfl⟩
      rw [hv]
      go_wp2_with fail
      refine (inRange_any _ _ _ _).mono ?_
      rintro e w' ⟨rfl, rfl⟩
      rw [hin']
      go_wp2_with fail
      go_ret
      exact ⟨by rw [hb.out]; rfl, Below.refl _ _⟩
  · have hv' : pl.vWords l = false := by simpa using hv
    have hb := Lib.hid (pl.waysR_no (l := l) (wd := wd) (.inl hv'))
    clear hv
    go_enter Try.func36, Try.ntmps36
    go_wp2_with fail
    refine (svalidWords_any l _ _ hl.1 hlen hsz).mono ?_
    rintro e w' ⟨rfl, rfl⟩
    rw [hv']
    go_wp2_with fail
    go_ret
    exact ⟨by rw [hb.out]; rfl, Below.refl _ _⟩
end Go.Proofs.Ytfajllfedhifkaa
