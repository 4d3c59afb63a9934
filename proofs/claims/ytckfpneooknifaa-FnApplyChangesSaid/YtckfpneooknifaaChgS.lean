/- Contracts: the model's changes, ChangesOf. -/
import Derived.Test.YtckfpneooknifaaCommO
namespace Go.Proofs.Ytckfpneooknifaa
open Go.RowKit
set_option maxRecDepth 100000
set_option linter.unusedVariables false

def RdCh (a b : List ByteArray) (D n m : Nat) (w : World) (ov iv kv : Value) (wr : World) : Prop :=
  ∃ (i k : Nat) (L : List pl.Ch), i ≤ n ∧ k ≤ m ∧ iv = .int .i64 i ∧ kv = .int .i64 k ∧ Hid (pl.ChSt a b i k L) ∧ Hid (OCh D wr ov L) ∧ Hid (Below D w wr)

set_option maxHeartbeats 16000000 in
theorem schanges_any (a b : List ByteArray) (va vb : Value) (w : World) (ha : RStrs w va a) (hb : RStrs w vb b) (hla : a.length ≤ 20) (hlb : b.length ≤ 20) :
    Calls Try.prog 99 #[va, vb] w fun e w' => ∃ v', e = .returned v' ∧ OCh w.heap.size w' v' (pl.chg a b) ∧ Below w.heap.size w w' := by
  obtain ⟨i0, hi, hz0, hz1, hz2⟩ := info_parts infoCh
  have HA := Lib.hid ha
  have HB := Lib.hid hb
  go_enter Try.func99, Try.ntmps99
  go_wp2_with fail
  refine (scommon_any a b va vb _ ha hb hla hlb).mono ?_
  rintro e w1 ⟨g, cap, gs, f, rfl, hT, hI, hbl⟩
  have HA1 := Lib.hid (HA.out.below (Nat.le_refl _) hbl)
  have HB1 := Lib.hid (HB.out.below (Nat.le_refl _) hbl)
  have HBL := Lib.hid hbl
  have HT := Lib.hid hT
  have HI := Lib.hid hI
  clear hT hI hbl ha hb
  obtain ⟨aa, ca, rfl⟩ := HA1.out.slice
  obtain ⟨ab, cb, rfl⟩ := HB1.out.slice
  obtain ⟨n, HN⟩ : ∃ n, Hid (n = a.length) := ⟨_, Lib.hid rfl⟩
  obtain ⟨m, HM⟩ : ∃ m, Hid (m = b.length) := ⟨_, Lib.hid rfl⟩
  rw [← HN.out] at HA1 HT hla ⊢
  rw [← HM.out] at HB1 HT hlb ⊢
  clear HA HB
  go_wp2_with fail
  have HO0 : Hid (OCh w1.heap.size (w1.alloc (.cells #[] 79)) (.slice (some ⟨w1.heap.size, 0, none⟩) 0 0) []) := Lib.hid (World.ownsRow_made _ _ _ (Nat.le_refl _) (by unfold maxLen; omega) rfl)
  have HB0 : Hid (Below w1.heap.size w1 (w1.alloc (.cells #[] 79))) := Lib.hid ((Below.refl _ _).alloc (Nat.le_refl _) _)
  have HS0 := Lib.hid (pl.chst_start a b)
  have hwD : Hid (w.heap.size ≤ w1.heap.size) := Lib.hid HBL.out.size
  obtain ⟨w0, HW0⟩ : ∃ w0, Hid (w1.alloc (.cells #[] 79) = w0) := ⟨_, Lib.hid rfl⟩
  rw [HW0.out] at HO0 HB0 ⊢
  obtain ⟨D, HD⟩ : ∃ D, Hid (w1.heap.size = D) := ⟨_, Lib.hid rfl⟩
  rw [HD.out] at HO0 HB0 hwD ⊢
  go_loopw [6, 7, 8] (fun ov iv kv wr => RdCh a b D n m w1 ov iv kv wr) (fun _ iv kv _ => (n - (intOf iv).toNat) + (m - (intOf kv).toNat))
  case atStart => exact ⟨0, 0, [], Nat.zero_le _, Nat.zero_le _, rfl, rfl, HS0, HO0, HB0⟩
  case round =>
    obtain ⟨i, k, L, hin, hkm, rfl, rfl, HS, HO, HBw⟩ := hrel
    have hDw : D ≤ wr.heap.size := by have := HBw.out.size; rw [HD.out] at this; exact this
    have hBW : Below w1.heap.size w1 wr := by rw [HD.out]; exact HBw.out
    have HBW := Lib.hid hBW
    have HLL : Hid (L.length ≤ 40) := Lib.hid (by have := HS.out.2; omega)
    clear hBW
    by_cases hi1 : i < n
    · have HIA : Hid (i < a.length) := Lib.hid (by rw [← HN.out]; exact hi1)
      obtain ⟨b1, o1, rfl, c1⟩ := HA1.out.at HN.out HBW.out hi1
      obtain ⟨x, HX⟩ : ∃ x, Hid (nth a i = x) := ⟨_, Lib.hid rfl⟩
      rw [HX.out] at c1
      by_cases hk1 : k < m
      · have HKB : Hid (k < b.length) := Lib.hid (by rw [← HM.out]; exact hk1)
        obtain ⟨b2, o2, rfl, c2⟩ := HB1.out.at HM.out HBW.out hk1
        obtain ⟨y, HY⟩ : ∃ y, Hid (nth b k = y) := ⟨_, Lib.hid rfl⟩
        rw [HY.out] at c2
        by_cases e : x = y
        · subst e
          have HS2 := Lib.hid (pl.chst_keep HS.out HIA.out HKB.out HX.out HY.out)
          go_wp2_with fail
          go_quiet (fail)
          have HOq := Lib.hid (HO.out.below (below_drewN (n := nq)))
          have HBq := Lib.hid (HBw.out.trans (below_drewN (n := nq)))
          have hDq : D ≤ (wr.drewN nq).heap.size := hDw
          have c1q : (wr.drewN nq).cell? ⟨b1, o1 + i, none⟩ = some (.string x) := c1
          clear c1 c2
          obtain ⟨wq, HWQ⟩ : ∃ wq, Hid (wr.drewN nq = wq) := ⟨_, Lib.hid rfl⟩
          rw [HWQ.out] at HOq HBq hDq c1q ⊢
          go_wp2_with (at_builtin; refine wpList_append_own _ rfl _ _ 33 rfl D 79 i0 (.agg #[.int .i64 0, .string ByteArray.empty]) 2 24 Try.underlying33 hi hz0 hz1 hz2 rfl (by decide) _ _ _ rfl (World.ownsRow.alloc HOq.out _) ⟨wq.heap.size, 0, none⟩ 1 1 [.int .i64 0, .string x] rfl rfl (cell_pair_new _ _ _ _) (by intro u hu; simp at hu; rcases hu with h | h <;> subst h <;> rfl) (by have := HLL.out; unfold maxLen; omega) (by have := HLL.out; omega) (by simp; omega) ?_)
          intro v8 w8 hown8 hgrow8 _
          have HO8 := Lib.hid (OCh.push hown8)
          have HB8 := Lib.hid ((HBq.out.alloc hDq _).grown hgrow8 (by simp; omega) (fun g hg => (World.ownsRow.lt HOq.out g hg).1))
          clear hown8 hgrow8
          go_wp2
          go_roundw
          case rel => exact ⟨i + 1, k + 1, _, by omega, by omega, by go_num, by go_num, HS2, HO8, HB8⟩
          case measure => simp [intOf]; omega
        · have hne := toList_ne e
          have HNE := Lib.hid e
          have hkz : ((k : Int) == (m : Int)) = false := beq_eq_false_iff_ne.2 (by omega)
          have hV := HI.out (i + 1) k (by have := HIA.out; omega) (by have := HKB.out; omega) (.inl (by omega))
          have hU := HI.out i (k + 1) (by have := HIA.out; omega) (by have := HKB.out; omega) (by by_cases h : 0 < i; exact .inl h; exact .inr (.inl ⟨by omega, Nat.zero_le _⟩))
          obtain ⟨V, HV⟩ : ∃ V, Hid (pl.tabC a b (i + 1) k = V) := ⟨_, Lib.hid rfl⟩
          obtain ⟨U, HU⟩ : ∃ U, Hid (pl.tabC a b i (k + 1) = U) := ⟨_, Lib.hid rfl⟩
          rw [HV.out] at hV
          rw [HU.out] at hU
          have hTw := HT.out.below HBW.out
          have r0 := (hTw.rows i (by omega)).1
          have r1 := (hTw.rows (i + 1) (by omega)).1
          have d1 := (hTw.cells (i + 1) k (by omega) (by omega)).1
          have d2 := (hTw.cells i (k + 1) (by omega) (by omega)).1
          rw [hV] at d1
          rw [hU] at d2
          obtain ⟨G0, HG0⟩ : ∃ G0, Hid (gs i = G0) := ⟨_, Lib.hid rfl⟩
          obtain ⟨G1, HG1⟩ : ∃ G1, Hid (gs (i + 1) = G1) := ⟨_, Lib.hid rfl⟩
          rw [HG0.out] at r0 d2
          rw [HG1.out] at r1 d1
          have s4 : 0 ≤ (i : Int) + 1 := by omega
          have s5 : 0 ≤ (k : Int) + 1 := by omega
          have t1 : (i : Int) + 1 < (n : Int) + 1 := by omega
          have t2 : (i : Int) < (n : Int) + 1 := by omega
          have t3 : (k : Int) + 1 < (m : Int) + 1 := by omega
          have t4 : (k : Int) < (m : Int) + 1 := by omega
          clear hV hU hTw e
          by_cases hc : U ≤ V
          · have HS2 := Lib.hid (pl.chst_drop HS.out HIA.out HKB.out HX.out HY.out HNE.out (by rw [HV.out, HU.out]; exact hc))
            have hci : (U : Int) ≤ (V : Int) := by omega
            go_wp2_with fail
            go_quiet (fail)
            have HOp := Lib.hid (HO.out.below (below_drewN (n := nq)))
            have HBp := Lib.hid (HBw.out.trans (below_drewN (n := nq)))
            have hDp : D ≤ (wr.drewN nq).heap.size := hDw
            have c1p : (wr.drewN nq).cell? ⟨b1, o1 + i, none⟩ = some (.string x) := c1
            have c2p : (wr.drewN nq).cell? ⟨b2, o2 + k, none⟩ = some (.string y) := c2
            have r0p : (wr.drewN nq).cell? ⟨g, i, none⟩ = some (.slice (some ⟨G0, 0, none⟩) (m + 1) (m + 1)) := r0
            have r1p : (wr.drewN nq).cell? ⟨g, i + 1, none⟩ = some (.slice (some ⟨G1, 0, none⟩) (m + 1) (m + 1)) := r1
            have d1p : (wr.drewN nq).cell? ⟨G1, k, none⟩ = some (.int .i64 (V : Int)) := d1
            have d2p : (wr.drewN nq).cell? ⟨G0, k + 1, none⟩ = some (.int .i64 (U : Int)) := d2
            clear c1 c2 r0 r1 d1 d2
            obtain ⟨wp, HWP⟩ : ∃ wp, Hid (wr.drewN nq = wp) := ⟨_, Lib.hid rfl⟩
            rw [HWP.out] at HOp HBp hDp c1p c2p r0p r1p d1p d2p ⊢
            go_wp2_with fail
            go_quiet (fail)
            have HOq := Lib.hid (HOp.out.below (below_drewN (n := nq)))
            have HBq := Lib.hid (HBp.out.trans (below_drewN (n := nq)))
            have hDq : D ≤ (wp.drewN nq).heap.size := hDp
            have c1q : (wp.drewN nq).cell? ⟨b1, o1 + i, none⟩ = some (.string x) := c1p
            clear c1p c2p r0p r1p d1p d2p
            obtain ⟨wq, HWQ⟩ : ∃ wq, Hid (wp.drewN nq = wq) := ⟨_, Lib.hid rfl⟩
            rw [HWQ.out] at HOq HBq hDq c1q ⊢
            go_wp2_with (at_builtin; refine wpList_append_own _ rfl _ _ 33 rfl D 79 i0 (.agg #[.int .i64 0, .string ByteArray.empty]) 2 24 Try.underlying33 hi hz0 hz1 hz2 rfl (by decide) _ _ _ rfl (World.ownsRow.alloc HOq.out _) ⟨wq.heap.size, 0, none⟩ 1 1 [.int .i64 1, .string x] rfl rfl (cell_pair_new _ _ _ _) (by intro u hu; simp at hu; rcases hu with h | h <;> subst h <;> rfl) (by have := HLL.out; unfold maxLen; omega) (by have := HLL.out; omega) (by simp; omega) ?_)
            intro v8 w8 hown8 hgrow8 _
            have HO8 := Lib.hid (OCh.push hown8)
            have HB8 := Lib.hid ((HBq.out.alloc hDq _).grown hgrow8 (by simp; omega) (fun g hg => (World.ownsRow.lt HOq.out g hg).1))
            clear hown8 hgrow8
            go_wp2
            go_roundw
            case rel => exact ⟨i + 1, k, _, by omega, by omega, by go_num, rfl, HS2, HO8, HB8⟩
            case measure => simp [intOf]; omega
          · have HS2 := Lib.hid (pl.chst_add HS.out HIA.out HKB.out HX.out HY.out HNE.out (by rw [HV.out, HU.out]; exact hc))
            have hci : ¬ (U : Int) ≤ (V : Int) := by omega
            go_wp2_with fail
            go_quiet (fail)
            have HOp := Lib.hid (HO.out.below (below_drewN (n := nq)))
            have HBp := Lib.hid (HBw.out.trans (below_drewN (n := nq)))
            have hDp : D ≤ (wr.drewN nq).heap.size := hDw
            have c1p : (wr.drewN nq).cell? ⟨b1, o1 + i, none⟩ = some (.string x) := c1
            have c2p : (wr.drewN nq).cell? ⟨b2, o2 + k, none⟩ = some (.string y) := c2
            have r0p : (wr.drewN nq).cell? ⟨g, i, none⟩ = some (.slice (some ⟨G0, 0, none⟩) (m + 1) (m + 1)) := r0
            have r1p : (wr.drewN nq).cell? ⟨g, i + 1, none⟩ = some (.slice (some ⟨G1, 0, none⟩) (m + 1) (m + 1)) := r1
            have d1p : (wr.drewN nq).cell? ⟨G1, k, none⟩ = some (.int .i64 (V : Int)) := d1
            have d2p : (wr.drewN nq).cell? ⟨G0, k + 1, none⟩ = some (.int .i64 (U : Int)) := d2
            clear c1 c2 r0 r1 d1 d2
            obtain ⟨wp, HWP⟩ : ∃ wp, Hid (wr.drewN nq = wp) := ⟨_, Lib.hid rfl⟩
            rw [HWP.out] at HOp HBp hDp c1p c2p r0p r1p d1p d2p ⊢
            go_wp2_with fail
            go_quiet (fail)
            have HOq := Lib.hid (HOp.out.below (below_drewN (n := nq)))
            have HBq := Lib.hid (HBp.out.trans (below_drewN (n := nq)))
            have hDq : D ≤ (wp.drewN nq).heap.size := hDp
            have c2q : (wp.drewN nq).cell? ⟨b2, o2 + k, none⟩ = some (.string y) := c2p
            clear c1p c2p r0p r1p d1p d2p
            obtain ⟨wq, HWQ⟩ : ∃ wq, Hid (wp.drewN nq = wq) := ⟨_, Lib.hid rfl⟩
            rw [HWQ.out] at HOq HBq hDq c2q ⊢
            go_wp2_with (at_builtin; refine wpList_append_own _ rfl _ _ 33 rfl D 79 i0 (.agg #[.int .i64 0, .string ByteArray.empty]) 2 24 Try.underlying33 hi hz0 hz1 hz2 rfl (by decide) _ _ _ rfl (World.ownsRow.alloc HOq.out _) ⟨wq.heap.size, 0, none⟩ 1 1 [.int .i64 2, .string y] rfl rfl (cell_pair_new _ _ _ _) (by intro u hu; simp at hu; rcases hu with h | h <;> subst h <;> rfl) (by have := HLL.out; unfold maxLen; omega) (by have := HLL.out; omega) (by simp; omega) ?_)
            intro v8 w8 hown8 hgrow8 _
            have HO8 := Lib.hid (OCh.push hown8)
            have HB8 := Lib.hid ((HBq.out.alloc hDq _).grown hgrow8 (by simp; omega) (fun g hg => (World.ownsRow.lt HOq.out g hg).1))
            clear hown8 hgrow8
            go_wp2
            go_roundw
            case rel => exact ⟨i, k + 1, _, by omega, by omega, rfl, by go_num, HS2, HO8, HB8⟩
            case measure => simp [intOf]; omega
      · obtain rfl : k = m := by omega
        have HS2 := Lib.hid (pl.chst_left HS.out HIA.out (by rw [← HM.out]; exact Nat.le_refl _) HX.out)
        have hkz : ((k : Int) == (k : Int)) = true := by simp
        go_wp2_with fail
        go_quiet (fail)
        have HOp := Lib.hid (HO.out.below (below_drewN (n := nq)))
        have HBp := Lib.hid (HBw.out.trans (below_drewN (n := nq)))
        have hDp : D ≤ (wr.drewN nq).heap.size := hDw
        have c1p : (wr.drewN nq).cell? ⟨b1, o1 + i, none⟩ = some (.string x) := c1
        clear c1
        obtain ⟨wp, HWP⟩ : ∃ wp, Hid (wr.drewN nq = wp) := ⟨_, Lib.hid rfl⟩
        rw [HWP.out] at HOp HBp hDp c1p ⊢
        go_wp2_with fail
        go_quiet (fail)
        have HOq := Lib.hid (HOp.out.below (below_drewN (n := nq)))
        have HBq := Lib.hid (HBp.out.trans (below_drewN (n := nq)))
        have hDq : D ≤ (wp.drewN nq).heap.size := hDp
        have c1q : (wp.drewN nq).cell? ⟨b1, o1 + i, none⟩ = some (.string x) := c1p
        clear c1p
        obtain ⟨wq, HWQ⟩ : ∃ wq, Hid (wp.drewN nq = wq) := ⟨_, Lib.hid rfl⟩
        rw [HWQ.out] at HOq HBq hDq c1q ⊢
        go_wp2_with (at_builtin; refine wpList_append_own _ rfl _ _ 33 rfl D 79 i0 (.agg #[.int .i64 0, .string ByteArray.empty]) 2 24 Try.underlying33 hi hz0 hz1 hz2 rfl (by decide) _ _ _ rfl (World.ownsRow.alloc HOq.out _) ⟨wq.heap.size, 0, none⟩ 1 1 [.int .i64 1, .string x] rfl rfl (cell_pair_new _ _ _ _) (by intro u hu; simp at hu; rcases hu with h | h <;> subst h <;> rfl) (by have := HLL.out; unfold maxLen; omega) (by have := HLL.out; omega) (by simp; omega) ?_)
        intro v8 w8 hown8 hgrow8 _
        have HO8 := Lib.hid (OCh.push hown8)
        have HB8 := Lib.hid ((HBq.out.alloc hDq _).grown hgrow8 (by simp; omega) (fun g hg => (World.ownsRow.lt HOq.out g hg).1))
        clear hown8 hgrow8
        go_wp2
        go_roundw
        case rel => exact ⟨i + 1, k, _, by omega, by omega, by go_num, rfl, HS2, HO8, HB8⟩
        case measure => simp [intOf]; omega
    · obtain rfl : i = n := by omega
      by_cases hk1 : k < m
      · have HKB : Hid (k < b.length) := Lib.hid (by rw [← HM.out]; exact hk1)
        obtain ⟨b2, o2, rfl, c2⟩ := HB1.out.at HM.out HBW.out hk1
        obtain ⟨y, HY⟩ : ∃ y, Hid (nth b k = y) := ⟨_, Lib.hid rfl⟩
        rw [HY.out] at c2
        have hkz : ((k : Int) == (m : Int)) = false := beq_eq_false_iff_ne.2 (by omega)
        have HS2 := Lib.hid (pl.chst_right HS.out (by rw [← HN.out]; exact Nat.le_refl _) HKB.out HY.out)
        go_wp2_with fail
        go_quiet (fail)
        have HOp := Lib.hid (HO.out.below (below_drewN (n := nq)))
        have HBp := Lib.hid (HBw.out.trans (below_drewN (n := nq)))
        have hDp : D ≤ (wr.drewN nq).heap.size := hDw
        have c2p : (wr.drewN nq).cell? ⟨b2, o2 + k, none⟩ = some (.string y) := c2
        clear c2
        obtain ⟨wp, HWP⟩ : ∃ wp, Hid (wr.drewN nq = wp) := ⟨_, Lib.hid rfl⟩
        rw [HWP.out] at HOp HBp hDp c2p ⊢
        go_wp2_with fail
        go_quiet (fail)
        have HOq := Lib.hid (HOp.out.below (below_drewN (n := nq)))
        have HBq := Lib.hid (HBp.out.trans (below_drewN (n := nq)))
        have hDq : D ≤ (wp.drewN nq).heap.size := hDp
        have c2q : (wp.drewN nq).cell? ⟨b2, o2 + k, none⟩ = some (.string y) := c2p
        clear c2p
        obtain ⟨wq, HWQ⟩ : ∃ wq, Hid (wp.drewN nq = wq) := ⟨_, Lib.hid rfl⟩
        rw [HWQ.out] at HOq HBq hDq c2q ⊢
        go_wp2_with (at_builtin; refine wpList_append_own _ rfl _ _ 33 rfl D 79 i0 (.agg #[.int .i64 0, .string ByteArray.empty]) 2 24 Try.underlying33 hi hz0 hz1 hz2 rfl (by decide) _ _ _ rfl (World.ownsRow.alloc HOq.out _) ⟨wq.heap.size, 0, none⟩ 1 1 [.int .i64 2, .string y] rfl rfl (cell_pair_new _ _ _ _) (by intro u hu; simp at hu; rcases hu with h | h <;> subst h <;> rfl) (by have := HLL.out; unfold maxLen; omega) (by have := HLL.out; omega) (by simp; omega) ?_)
        intro v8 w8 hown8 hgrow8 _
        have HO8 := Lib.hid (OCh.push hown8)
        have HB8 := Lib.hid ((HBq.out.alloc hDq _).grown hgrow8 (by simp; omega) (fun g hg => (World.ownsRow.lt HOq.out g hg).1))
        clear hown8 hgrow8
        go_wp2
        go_roundw
        case rel => exact ⟨i, k + 1, _, by omega, by omega, rfl, by go_num, HS2, HO8, HB8⟩
        case measure => simp [intOf]; omega
      · obtain rfl : k = m := by omega
        have HE := Lib.hid (pl.chst_done HS.out (by rw [← HN.out]; exact Nat.le_refl _) (by rw [← HM.out]; exact Nat.le_refl _))
        rw [HE.out] at HO
        go_wp2_with fail
        go_ret
        exact ⟨_, rfl, HO.out.mono hwD.out, HBL.out.trans (HBw.out.mono hwD.out)⟩

set_option maxHeartbeats 4000000 in
theorem sChangesOf_any (a b : List ByteArray) (va vb : Value) (w : World) (ha : RStrs w va a) (hb : RStrs w vb b) (hla : a.length ≤ maxLen) (hza : ∀ i, i < a.length → (nth a i).size ≤ maxLen) (hlb : b.length ≤ maxLen) (hzb : ∀ i, i < b.length → (nth b i).size ≤ maxLen) :
    Calls Try.prog 89 #[va, vb] w fun e w' => ∃ v', e = .returned v' ∧ OCh w.heap.size w' v' (pl.chgR a b) ∧ Below w.heap.size w w' := by
  have HA := Lib.hid ha
  have HB := Lib.hid hb
  have HLA := Lib.hid hla
  have HZA := Lib.hid hza
  have HLB := Lib.hid hlb
  have HZB := Lib.hid hzb
  clear ha hb hla hza hlb hzb
  cases hva : pl.validLs a with
  | false =>
    have HE := Lib.hid (pl.chgR_no (b := b) (.inl hva))
    have HVA := Lib.hid hva
    clear hva
    go_enter Try.func89, Try.ntmps89
    go_wp2_with fail
    refine (svalidLines_any a va _ HA.out HLA.out HZA.out).mono ?_
    rintro e w' ⟨rfl, rfl⟩
    rw [HVA.out]
    go_wp2_with fail
    go_ret
    exact ⟨_, rfl, by rw [HE.out]; exact OCh.nil _ _, Below.refl _ _⟩
  | true =>
  cases hvb : pl.validLs b with
  | false =>
    have HE := Lib.hid (pl.chgR_no (a := a) (.inr hvb))
    have HVA := Lib.hid hva
    have HVB := Lib.hid hvb
    clear hva hvb
    go_enter Try.func89, Try.ntmps89
    go_wp2_with fail
    refine (svalidLines_any a va _ HA.out HLA.out HZA.out).mono ?_
    rintro e w' ⟨rfl, rfl⟩
    rw [HVA.out]
    go_wp2_with fail
    refine (svalidLines_any b vb _ HB.out HLB.out HZB.out).mono ?_
    rintro e w' ⟨rfl, rfl⟩
    rw [HVB.out]
    go_wp2_with fail
    go_ret
    exact ⟨_, rfl, by rw [HE.out]; exact OCh.nil _ _, Below.refl _ _⟩
  | true =>
    have HE := Lib.hid (pl.chgR_yes hva hvb)
    have HVA := Lib.hid hva
    have HVB := Lib.hid hvb
    have hl1 := pl.validLs_len hva
    have hl2 := pl.validLs_len hvb
    clear hva hvb
    go_enter Try.func89, Try.ntmps89
    go_wp2_with fail
    refine (svalidLines_any a va _ HA.out HLA.out HZA.out).mono ?_
    rintro e w' ⟨rfl, rfl⟩
    rw [HVA.out]
    go_wp2_with fail
    refine (svalidLines_any b vb _ HB.out HLB.out HZB.out).mono ?_
    rintro e w' ⟨rfl, rfl⟩
    rw [HVB.out]
    go_wp2_with fail
    refine (schanges_any a b va vb _ HA.out HB.out hl1 hl2).mono ?_
    rintro e w1 ⟨v', rfl, ho, hbl⟩
    have HO := Lib.hid ho
    have HBL := Lib.hid hbl
    clear ho hbl
    go_wp2_with fail
    go_ret
    exact ⟨_, rfl, by rw [HE.out]; exact HO.out, HBL.out⟩
end Go.Proofs.Ytckfpneooknifaa
