/- Contracts: tables are told by both sides (validCells, ValidRows, validRows). -/
import Derived.Test.YtpfheanpbbfpdaaDoorPkB
import Derived.Test.YtpfheanpbbfpdaaDoorLinesV
import Derived.Test.YtpfheanpbbfpdaaDoorArgsP
namespace Go.Proofs.YtpfheanpbbfpdaaDoor
open Go.RowKit
set_option maxRecDepth 100000

set_option maxHeartbeats 1000000 in
theorem ivalidCells_any (l : List ByteArray) (v : Value) (w : World) (hr : RStrs w v l) (hlen : l.length ≤ maxLen) (hsz : ∀ i, i < l.length → (nth l i).size ≤ maxLen) :
    Calls Tryd.prog 70 #[v] w fun e w' => e = .returned (.bool (pl.vCells l)) ∧ Below w.heap.size w w' := by
  have hlen' := hlen
  unfold maxLen at hlen'
  obtain ⟨n, hn⟩ : ∃ n, n = l.length := ⟨_, rfl⟩
  have HN := Lib.hid hn
  have HSZ := Lib.hid hsz
  have hrr := Lib.hid hr
  obtain ⟨a0, cap0, rfl⟩ := hr.slice
  rw [← hn] at hlen' hrr ⊢
  clear hn hr hlen hsz
  by_cases hsm : n < 1
  · have hb : Hid (pl.vCells l = false) := Lib.hid (pl.vCells_len (by rw [← HN.out]; exact .inl hsm))
    go_enter Tryd.func70, Tryd.ntmps70
    go_wp2_with fail
    go_ret
    exact ⟨ret_b hb.out.symm, Below.refl _ _⟩
  by_cases hbig : 5 < n
  · have hb : Hid (pl.vCells l = false) := Lib.hid (pl.vCells_len (by rw [← HN.out]; exact .inr hbig))
    go_enter Tryd.func70, Tryd.ntmps70
    go_wp2_with fail
    go_ret
    exact ⟨ret_b hb.out.symm, Below.refl _ _⟩
  · go_enter Tryd.func70, Tryd.ntmps70
    go_wp2_with fail
    go_loopw [15] (fun iv wr => ∃ k : Nat, k ≤ n ∧ iv = .int .i64 k ∧ Hid (pl.cellsTo l k) ∧ Below w.heap.size w wr) (fun iv _ => n - (intOf iv).toNat)
    case atStart => exact ⟨0, Nat.zero_le _, rfl, Lib.hid (pl.cellsTo_zero l), Below.refl _ _⟩
    case round =>
      obtain ⟨k, hk, rfl, hok, hbel⟩ := hrel
      by_cases hlt : k < n
      · obtain ⟨b1, o1, rfl, hx⟩ := hrr.out.at HN.out hbel hlt
        have hxm := HSZ.out k (by rw [← HN.out]; exact hlt)
        have hxm' := hxm
        unfold maxLen at hxm'
        obtain ⟨x, HX⟩ : ∃ x, Hid (nth l k = x) := ⟨_, Lib.hid rfl⟩
        rw [HX.out] at hx hxm hxm'
        by_cases h16 : 16 < x.size
        · have hb := Lib.hid (pl.vCells_bad (l := l) (k := k) (by rw [← HN.out]; exact hlt) (by rw [HX.out]; exact pl.vCell_long h16))
          go_wp2_with fail
          go_ret
          exact ⟨ret_b hb.out.symm, hbel⟩
        by_cases hp : pl.validT x.data.toList = true
        · have hn2 := Lib.hid (pl.cellsTo_succ hok.out (by rw [HX.out]; exact pl.vCell_yes hp (by omega)))
          go_wp2_with fail
          refine (iValidText_any x _ hxm).mono ?_
          rintro e w' ⟨rfl, hb2⟩
          have hb3 := Lib.hid (hbel.trans (hb2.mono hbel.size))
          go_wp2_with fail
          go_roundw
          case rel => exact ⟨k + 1, by omega, by go_num, hn2, hb3.out⟩
          case measure => simp [intOf]; omega
        · have hp' : pl.validT x.data.toList = false := by simpa using hp
          have hb := Lib.hid (pl.vCells_bad (l := l) (k := k) (by rw [← HN.out]; exact hlt) (by rw [HX.out]; exact pl.vCell_bad hp'))
          clear hp
          go_wp2_with fail
          refine (iValidText_any x _ hxm).mono ?_
          rintro e w' ⟨rfl, hb2⟩
          have hb3 := Lib.hid (hbel.trans (hb2.mono hbel.size))
          go_wp2_with fail
          go_ret
          exact ⟨ret_b hb.out.symm, hb3.out⟩
      · obtain rfl : k = n := by omega
        have hb := Lib.hid (pl.vCells_yes (l := l) (by rw [← HN.out]; omega) (by rw [← HN.out]; omega) (by rw [← HN.out]; exact hok.out))
        go_wp2_with fail
        go_ret
        exact ⟨ret_b hb.out.symm, hbel⟩

theorem Small.row {ps : pl.Gs} (h : Small ps) {k : Nat} (hk : k < ps.length) : (pl.nthP ps k).length ≤ maxLen ∧ ∀ i, i < (pl.nthP ps k).length → (nth (pl.nthP ps k) i).size ≤ maxLen :=
  ⟨Nat.le_trans (h.rows k hk) (by unfold maxLen; omega), fun i hi => Nat.le_trans (h.size k hk i hi) (by unfold maxLen; omega)⟩

set_option maxHeartbeats 2000000 in
theorem iValidRows_any (ps : pl.Gs) (v : Value) (w : World) (hr : RPs w v ps) (hs : Small ps) :
    Calls Tryd.prog 56 #[v] w fun e w' => e = .returned (.bool (pl.vRows ps)) ∧ Below w.heap.size w w' := by
  have hlen' := hs.len
  obtain ⟨n, hn⟩ : ∃ n, n = ps.length := ⟨_, rfl⟩
  have HN := Lib.hid hn
  have HS := Lib.hid hs
  have hrr := Lib.hid hr
  obtain ⟨a0, cap0, rfl⟩ := hr.slice
  rw [← hn] at hlen' hrr ⊢
  clear hn hr hs
  by_cases hbig : 6 < n
  · have hb : Hid (pl.vRows ps = false) := Lib.hid (pl.vRows_long (by rw [← HN.out]; exact hbig))
    go_enter Tryd.func56, Tryd.ntmps56
    go_wp2_with fail
    go_ret
    exact ⟨ret_b hb.out.symm, Below.refl _ _⟩
  · go_enter Tryd.func56, Tryd.ntmps56
    go_wp2_with fail
    go_loopw [10] (fun iv wr => ∃ k : Nat, k ≤ n ∧ iv = .int .i64 k ∧ Hid (pl.rowsTo ps k) ∧ Below w.heap.size w wr) (fun iv _ => n - (intOf iv).toNat)
    case atStart => exact ⟨0, Nat.zero_le _, rfl, Lib.hid (pl.rowsTo_zero ps), Below.refl _ _⟩
    case round =>
      obtain ⟨k, hk, rfl, hok, hbel⟩ := hrel
      by_cases hlt : k < n
      · have hkl : Hid (k < ps.length) := Lib.hid (by rw [← HN.out]; exact hlt)
        have hpos : 0 < n := by omega
        obtain ⟨b1, o1, u, rfl, _, hx, hu⟩ := hrr.out.at HN.out hbel hlt
        obtain ⟨b2, o2, u0, e2, _, hx0, hu0⟩ := hrr.out.at HN.out hbel hpos
        simp only [Option.some.injEq, Addr.mk.injEq, and_true] at e2
        obtain ⟨rfl, rfl⟩ := e2
        rw [Nat.add_zero] at hx0
        obtain ⟨au, cu, hv⟩ := hu.1.slice
        obtain ⟨av, cv, hv0⟩ := hu0.1.slice
        have HU := Lib.hid hu.1
        have hrow := HS.out.row hkl.out
        have HROW := Lib.hid hrow
        have hm1 := HS.out.rows k hkl.out
        have hm2 := HS.out.rows 0 (by have := hkl.out; omega)
        obtain ⟨m, HM⟩ : ∃ m, Hid ((pl.nthP ps k).length = m) := ⟨_, Lib.hid rfl⟩
        obtain ⟨m0, HM0⟩ : ∃ m, Hid ((pl.nthP ps 0).length = m) := ⟨_, Lib.hid rfl⟩
        rw [HM.out] at hv hm1
        rw [HM0.out] at hv0 hm2
        subst hv
        subst hv0
        clear hu hu0 hrow
        by_cases hm : m = m0
        · subst hm
          cases hc : pl.vCells (pl.nthP ps k) with
          | true =>
            have HC := Lib.hid hc
            have hn2 := Lib.hid (pl.rowsTo_succ hok.out (pl.rowOK_yes (HM.out.trans HM0.out.symm) hc))
            clear hc
            go_wp2_with fail
            refine (ivalidCells_any (pl.nthP ps k) _ _ HU.out HROW.out.1 HROW.out.2).mono ?_
            rintro e w' ⟨rfl, hb2⟩
            rw [HC.out]
            have hb3 := Lib.hid (hbel.trans (hb2.mono hbel.size))
            go_wp2_with fail
            go_roundw
            case rel => exact ⟨k + 1, by omega, by go_num, hn2, hb3.out⟩
            case measure => simp [intOf]; omega
          | false =>
            have HC := Lib.hid hc
            have hb := Lib.hid (pl.vRows_bad hkl.out (pl.rowOK_bad hc))
            clear hc
            go_wp2_with fail
            refine (ivalidCells_any (pl.nthP ps k) _ _ HU.out HROW.out.1 HROW.out.2).mono ?_
            rintro e w' ⟨rfl, hb2⟩
            rw [HC.out]
            have hb3 := Lib.hid (hbel.trans (hb2.mono hbel.size))
            go_wp2_with fail
            go_ret
            exact ⟨ret_b hb.out.symm, hb3.out⟩
        · have hb := Lib.hid (pl.vRows_bad hkl.out (pl.rowOK_len (by rw [HM.out, HM0.out]; exact hm)))
          have hne : ((m : Int) == (m0 : Int)) = false := by simp; omega
          have hne2 : ((m : Int) != (m0 : Int)) = true := by simp; omega
          clear hm
          go_wp2_with fail
          go_ret
          exact ⟨ret_b hb.out.symm, hbel⟩
      · obtain rfl : k = n := by omega
        have hb := Lib.hid (pl.vRows_all (ps := ps) (by rw [← HN.out]; exact hok.out))
        go_wp2_with fail
        go_ret
        exact ⟨ret_b (by rw [hb.out, ← HN.out]; exact (decide_eq_true (by omega)).symm), hbel⟩

theorem inRange_q (n lo hi : Int) (b : Bool) (hb : pl.inR n lo hi = b) (w : World) (k : Nat) :
    Calls Tryd.prog 101 #[.int .i64 n, .int .i64 lo, .int .i64 hi] (w.drewN k) fun e w'' => e = .returned (.bool b) ∧ ∃ m, w'' = w.drewN m :=
  (inRange_any n lo hi _).mono fun e w' ⟨h1, h2⟩ => ⟨by rw [h1, hb], k, h2.symm⟩

set_option maxHeartbeats 4000000 in
theorem svalidRows_any (ps : pl.Gs) (v : Value) (w : World) (hr : RPs w v ps) (hs : Small ps) :
    Calls Tryd.prog 58 #[v] w fun e w' => e = .returned (.bool (pl.vRows ps)) ∧ Below w.heap.size w w' := by
  have hlen' := hs.len
  obtain ⟨n, hn⟩ : ∃ n, n = ps.length := ⟨_, rfl⟩
  have HN := Lib.hid hn
  have HS := Lib.hid hs
  have hrr := Lib.hid hr
  obtain ⟨a0, cap0, rfl⟩ := hr.slice
  rw [← hn] at hlen' hrr ⊢
  clear hn hr hs
  go_enter Tryd.func58, Tryd.ntmps58
  go_wp2_with fail
  go_loopw [3] (fun iv wr => ∃ k : Nat, k ≤ n ∧ iv = .int .i64 k ∧ Hid (pl.rowsTo ps k) ∧ Below w.heap.size w wr) (fun iv _ => n - (intOf iv).toNat)
  case atStart => exact ⟨0, Nat.zero_le _, rfl, Lib.hid (pl.rowsTo_zero ps), Below.refl _ _⟩
  case round =>
    obtain ⟨k, hk, rfl, hok, hbel⟩ := hrel
    have HBEL := Lib.hid hbel
    by_cases hlt : k < n
    · have hkl : Hid (k < ps.length) := Lib.hid (by rw [← HN.out]; exact hlt)
      have hpos : 0 < n := by omega
      obtain ⟨b1, o1, u, rfl, hb1, hx, hu⟩ := hrr.out.at HN.out (Below.refl _ _) hlt
      obtain ⟨b2, o2, u0, e2, _, hx0, hu0⟩ := hrr.out.at HN.out (Below.refl _ _) hpos
      simp only [Option.some.injEq, Addr.mk.injEq, and_true] at e2
      obtain ⟨rfl, rfl⟩ := e2
      rw [Nat.add_zero] at hx0
      obtain ⟨au, cu, hv⟩ := hu.1.slice
      obtain ⟨av, cv, hv0⟩ := hu0.1.slice
      have HU := Lib.hid hu.1
      have hrow := HS.out.row hkl.out
      have HROW := Lib.hid hrow
      have hm1 := HS.out.rows k hkl.out
      have hm2 := HS.out.rows 0 (by have := hkl.out; omega)
      obtain ⟨m, HM⟩ : ∃ m, Hid ((pl.nthP ps k).length = m) := ⟨_, Lib.hid rfl⟩
      obtain ⟨m0, HM0⟩ : ∃ m, Hid ((pl.nthP ps 0).length = m) := ⟨_, Lib.hid rfl⟩
      rw [HM.out] at hv hm1
      rw [HM0.out] at hv0 hm2
      subst hv
      subst hv0
      have HX := Lib.hid hx
      have HX0 := Lib.hid hx0
      have HB1 := Lib.hid hb1
      clear hu hu0 hrow hx hx0 hb1
      have c1 := (hbel.cell (p := ⟨b1, o1 + k, none⟩) HB1.out).trans HX.out
      have c0 := (hbel.cell (p := ⟨b1, o1, none⟩) HB1.out).trans HX0.out
      clear hbel
      by_cases hm : m = m0
      · subst hm
        have hne : ((m : Int) != (m : Int)) = false := by simp
        by_cases hin : pl.inR (m : Int) 1 5 = true
        · have HIN := Lib.hid hin
          have HM5 : 1 ≤ m ∧ m ≤ 5 := by
            have : 1 ≤ (m : Int) ∧ (m : Int) ≤ 5 := by simpa [pl.inR] using hin
            omega
          clear hin hne
          go_wp2_with fail
          go_quiet ((go_at_call 101; exact inRange_q _ _ _ true HIN.out _ _))
          obtain ⟨w5, HW5⟩ : ∃ u, Hid (wr.drewN nq = u) := ⟨_, Lib.hid rfl⟩
          have HB5 : Hid (Below w.heap.size w w5) := Lib.hid (HBEL.out.trans (by rw [← HW5.out]; exact below_drewN))
          rw [HW5.out]
          clear c1 c0
          have c1 := (HB5.out.cell (p := ⟨b1, o1 + k, none⟩) HB1.out).trans HX.out
          go_wp2_with fail
          go_loop [4] (fun jv => ∃ j : Nat, j ≤ m ∧ jv = .int .i64 j ∧ Hid (pl.cellsTo (pl.nthP ps k) j)) (fun jv => m - (intOf jv).toNat)
          case atStart => exact ⟨0, Nat.zero_le _, rfl, Lib.hid (pl.cellsTo_zero _)⟩
          case round =>
            obtain ⟨j, hj, rfl, hcj⟩ := hrel
            by_cases hjm : j < m
            · have hjl : Hid (j < (pl.nthP ps k).length) := Lib.hid (by rw [HM.out]; exact hjm)
              obtain ⟨b3, o3, e3, hcx⟩ := HU.out.at HM.out.symm HB5.out hjm
              subst e3
              have hxm := HROW.out.2 j hjl.out
              have hxm' := hxm
              unfold maxLen at hxm'
              obtain ⟨x, HXX⟩ : ∃ x, Hid (nth (pl.nthP ps k) j = x) := ⟨_, Lib.hid rfl⟩
              rw [HXX.out] at hcx hxm hxm'
              by_cases hp : pl.validT x.data.toList = true
              · by_cases h16 : 16 < x.size
                · have hb := Lib.hid (pl.vRows_bad hkl.out (pl.rowOK_bad (pl.vCells_bad hjl.out (by rw [HXX.out]; exact pl.vCell_long h16))))
                  go_wp2_with fail
                  refine (svalidText_any x _ hxm).mono ?_
                  rintro e w' ⟨rfl, rfl⟩
                  go_wp2_with fail
                  go_ret
                  exact ⟨ret_b hb.out.symm, HB5.out⟩
                · have hn2 := Lib.hid (pl.cellsTo_succ hcj.out (by rw [HXX.out]; exact pl.vCell_yes hp (by omega)))
                  go_wp2_with fail
                  refine (svalidText_any x _ hxm).mono ?_
                  rintro e w' ⟨rfl, rfl⟩
                  go_wp2_with fail
                  go_round
                  case rel => exact ⟨j + 1, by omega, by go_num, hn2⟩
                  case measure => simp [intOf]; omega
              · have hp' : pl.validT x.data.toList = false := by simpa using hp
                have hb := Lib.hid (pl.vRows_bad hkl.out (pl.rowOK_bad (pl.vCells_bad hjl.out (by rw [HXX.out]; exact pl.vCell_bad hp'))))
                clear hp
                go_wp2_with fail
                refine (svalidText_any x _ hxm).mono ?_
                rintro e w' ⟨rfl, rfl⟩
                go_wp2_with fail
                go_ret
                exact ⟨ret_b hb.out.symm, HB5.out⟩
            · obtain rfl : j = m := by omega
              have hn2 := Lib.hid (pl.rowsTo_succ hok.out (pl.rowOK_yes (HM.out.trans HM0.out.symm) (pl.vCells_yes (by rw [HM.out]; omega) (by rw [HM.out]; omega) (by rw [HM.out]; exact hcj.out))))
              go_wp2_with fail
              go_roundw
              case rel => exact ⟨k + 1, by omega, by go_num, hn2, HB5.out⟩
              case measure => simp [intOf]; omega
        · have hin' : pl.inR (m : Int) 1 5 = false := by simpa using hin
          have hb := Lib.hid (pl.vRows_bad hkl.out (pl.rowOK_bad (pl.vCells_len (by
            rw [HM.out]
            by_cases e : m < 1
            · exact .inl e
            · refine .inr ?_
              apply Nat.lt_of_not_le
              intro h5
              rw [pl.inR_true (by omega) (by omega)] at hin'
              cases hin'))))
          have HIN := Lib.hid hin'
          clear hin hin' hne
          go_wp2_with fail
          go_quiet ((go_at_call 101; exact inRange_q _ _ _ false HIN.out _ _))
          have HB5 : Hid (Below w.heap.size w (wr.drewN nq)) := Lib.hid (HBEL.out.trans below_drewN)
          go_wp2_with fail
          go_ret
          exact ⟨ret_b hb.out.symm, HB5.out⟩
      · have hb := Lib.hid (pl.vRows_bad hkl.out (pl.rowOK_len (by rw [HM.out, HM0.out]; exact hm)))
        have hne : ((m : Int) == (m0 : Int)) = false := by simp; omega
        have hne2 : ((m : Int) != (m0 : Int)) = true := by simp; omega
        clear hm
        go_wp2_with fail
        go_quiet (fail)
        have HB5 : Hid (Below w.heap.size w (wr.drewN nq)) := Lib.hid (HBEL.out.trans below_drewN)
        go_wp2_with fail
        go_ret
        exact ⟨ret_b hb.out.symm, HB5.out⟩
    · obtain rfl : k = n := by omega
      have hb := Lib.hid (pl.vRows_all (ps := ps) (by rw [← HN.out]; exact hok.out))
      clear hbel
      go_wp2_with fail
      go_ret
      exact ⟨ret_b (by rw [hb.out, ← HN.out]; exact decide_eq_decide.2 (by omega)), HBEL.out⟩

end Go.Proofs.YtpfheanpbbfpdaaDoor
