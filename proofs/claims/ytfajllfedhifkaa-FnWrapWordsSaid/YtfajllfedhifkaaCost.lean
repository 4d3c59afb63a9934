/- Contracts: CostOf of both sides, the cost of rows. -/
import Derived.Test.YtfajllfedhifkaaPlainC
import Derived.Test.YtfajllfedhifkaaTexts
import Derived.Test.YtfajllfedhifkaaWrap
namespace Go.Proofs.Ytfajllfedhifkaa
open Go.RowKit
set_option maxRecDepth 100000

theorem square_any (m : Int) (w : World) (hs : m * m ≤ 14400) :
    Calls Try.prog 84 #[.int .i64 m] w fun e w' => e = .returned (.int .i64 (m * m)) ∧ w = w' := by
  have hs0 : 0 ≤ m * m := pl.sq_nn m
  go_enter Try.func84, Try.ntmps84
  go_wp2
  go_ret
  exact ⟨rfl, rfl⟩

set_option maxHeartbeats 1000000 in
theorem scost_any (l : List ByteArray) (wd : Int) (v : Value) (w : World) (hr : RStrs w v l) (hlen : l.length ≤ 20) (hwd : wd ≤ 120) (hw1 : 1 ≤ wd) (hsh : ∀ i, i < l.length → ((nth l i).size : Int) ≤ wd) :
    Calls Try.prog 66 #[v, .int .i64 wd] w fun e w' => e = .returned (.int .i64 (pl.costL l wd)) ∧ w = w' := by
  obtain ⟨n, hn⟩ : ∃ n, n = l.length := ⟨_, rfl⟩
  have HN := Lib.hid hn
  have HS := Lib.hid hsh
  have hrr := Lib.hid hr
  obtain ⟨a0, cap0, rfl⟩ := hr.slice
  rw [← hn] at hlen hrr ⊢
  clear hn hr hsh
  go_enter Try.func66, Try.ntmps66
  go_wp2_with fail
  go_loop [5, 6] (fun cv iv => ∃ (k : Nat) (c : Int), (k + 1 ≤ n ∨ k = 0) ∧ iv = .int .i64 k ∧ cv = .int .i64 c ∧ Hid (c = pl.costTo wd (pl.lsz l) k)) (fun _ iv => n - (intOf iv).toNat)
  case atStart => exact ⟨0, 0, .inr rfl, rfl, rfl, Lib.hid rfl⟩
  case round =>
    obtain ⟨k, c, hk, rfl, rfl, hc⟩ := hrel
    have hcb : 0 ≤ c ∧ c ≤ 14400 * 20 := by
      have h := pl.costTo_bound (wd := wd) (z := pl.lsz l) hwd k (fun i hi => ⟨by unfold pl.lsz; omega, HS.out i (by rw [← HN.out]; omega)⟩)
      rw [hc.out]
      refine ⟨h.1, Int.le_trans h.2 ?_⟩
      have : (k : Int) ≤ 20 := by omega
      omega
    by_cases hlt : k + 1 < n
    · obtain ⟨b1, o1, rfl, hx⟩ := hrr.out.at HN.out (Below.refl _ _) (k := k) (by omega)
      obtain ⟨x, HX⟩ : ∃ x, Hid (nth l k = x) := ⟨_, Lib.hid rfl⟩
      have hxs := HS.out k (by rw [← HN.out]; omega)
      rw [HX.out] at hx hxs
      obtain ⟨m, hm⟩ : ∃ m : Int, Hid (wd - (x.size : Int) = m) := ⟨_, Lib.hid rfl⟩
      have hm2 := hm.out
      have hb := pl.miss_bound (wd := wd) (a := (x.size : Int)) (by omega) hxs hwd
      rw [hm.out] at hb
      have hn2 : Hid (c + m * m = pl.costTo wd (pl.lsz l) (k + 1)) := Lib.hid (by
        rw [pl.costTo_succ, ← hc.out]
        unfold pl.lsz; rw [HX.out, hm.out])
      go_wp2_with fail
      refine (square_any m _ hb.2).mono ?_
      rintro e w' ⟨rfl, rfl⟩
      go_wp2_with fail
      go_round
      case rel => exact ⟨k + 1, c + m * m, .inl (by omega), by go_num, by go_num, hn2⟩
      case measure => simp [intOf]; omega
    · have he : Hid (c = pl.costL l wd) := Lib.hid (by
        rw [hc.out]; unfold pl.costL
        congr 1
        have := HN.out
        omega)
      go_wp2_with fail
      go_ret
      exact ⟨by rw [he.out]; rfl, rfl⟩

/-- the bytes that a row tells -/
def rz (rs : List Tr) (i : Nat) : Int := (((rs.getD i (0, 0, 0)).2.2 : Nat) : Int)

set_option maxHeartbeats 1000000 in
theorem costOfWay_any (rs : List Tr) (wd : Int) (u : Value) (w : World) (hg : RRows w u rs) (hlen : rs.length ≤ 20) (hwd : wd ≤ 120) (hw1 : 1 ≤ wd) (hz : ∀ i, i < rs.length → rz rs i ≤ wd) :
    Calls Try.prog 59 #[u, .int .i64 wd] w fun e w' => e = .returned (.int .i64 (pl.costTo wd (rz rs) (rs.length - 1))) ∧ Below w.heap.size w w' := by
  obtain ⟨n, hn⟩ : ∃ n, n = rs.length := ⟨_, rfl⟩
  have HN := Lib.hid hn
  have HZ := Lib.hid hz
  have HG := Lib.hid hg
  obtain ⟨a1, cap1, rfl, hb1, hcp⟩ : ∃ a1 cap1, u = .slice a1 n cap1 ∧ (n = 0 ∨ ∃ b, a1 = some ⟨b, 0, none⟩) ∧ n ≤ cap1 := by
    rcases hg with ⟨h1, c, h2⟩ | ⟨b, c, h2, _, hc, _⟩
    · have := congrArg List.length h1
      exact ⟨none, c, by rw [h2, hn, this]; rfl, .inl (by rw [hn, this]; rfl), by rw [hn, this]; exact Nat.zero_le _⟩
    · exact ⟨_, c, by rw [h2, hn], .inr ⟨b, rfl⟩, by rw [hn]; exact hc⟩
  rw [← hn] at hlen ⊢
  clear hn hg hz
  go_enter Try.func59, Try.ntmps59
  by_cases h0 : n = 0
  · subst h0
    go_wp2_with fail
    rw [show (max (-1) 0 : Int) = 0 from rfl]
    refine wp_loop_rounds 1 ?_
    rw [rounds_succ]
    go_wp2_with fail
    go_ret
    exact ⟨rfl, Below.refl _ _⟩
  · obtain ⟨p, rfl⟩ : ∃ p, n = p + 1 := ⟨n - 1, by omega⟩
    obtain ⟨b, rfl⟩ : ∃ b, a1 = some ⟨b, 0, none⟩ := by
      rcases hb1 with h | h
      · omega
      · exact h
    go_wp2_with fail
    go_loopw [5, 16] (fun cv iv wr => ∃ (k : Nat) (c : Int), k ≤ p ∧ iv = .int .i64 k ∧ cv = .int .i64 c ∧ Hid (c = pl.costTo wd (rz rs) k) ∧ Below w.heap.size w wr) (fun _ iv _ => p - (intOf iv).toNat)
    case atStart => exact ⟨0, 0, Nat.zero_le _, rfl, rfl, Lib.hid rfl, Below.refl _ _⟩
    case round =>
      obtain ⟨k, c, hk, rfl, rfl, hc, hbel⟩ := hrel
      have hcb : 0 ≤ c ∧ c ≤ 14400 * 20 := by
        have h := pl.costTo_bound (wd := wd) (z := rz rs) hwd k (fun i hi => ⟨by unfold rz; omega, HZ.out i (by rw [← HN.out]; omega)⟩)
        rw [hc.out]
        refine ⟨h.1, Int.le_trans h.2 ?_⟩
        have : (k : Int) ≤ 20 := by omega
        omega
      by_cases hlt : k < p
      · obtain ⟨r, hr⟩ : ∃ r, Hid (rs[k]? = some r) := ⟨rs[k]'(by rw [← HN.out]; omega), Lib.hid (List.getElem?_eq_getElem _)⟩
        obtain ⟨f, q, z⟩ := r
        obtain ⟨c1, c2, c3⟩ : wr.cell? ⟨b, k * 3, none⟩ = some (.int .i64 f) ∧ wr.cell? ⟨b, k * 3 + 1, none⟩ = some (.int .i64 q) ∧ wr.cell? ⟨b, k * 3 + 2, none⟩ = some (.int .i64 z) := by
          rcases HG.out.below (Nat.le_refl _) hbel with ⟨h1, _⟩ | ⟨b', c', h2, _, _, hc'⟩
          · exfalso
            have := congrArg List.length h1; rw [← HN.out] at this; simp at this
          · simp only [Value.slice.injEq, Option.some.injEq, Addr.mk.injEq, and_true] at h2
            obtain ⟨rfl, _, _⟩ := h2
            exact hc' k _ hr.out
        have hzk : Hid (rz rs k = z) := Lib.hid (by unfold rz; rw [List.getD_eq_getElem?_getD, hr.out]; rfl)
        have hzw : (z : Int) ≤ wd := by rw [← hzk.out]; exact HZ.out k (by rw [← HN.out]; omega)
        obtain ⟨m, hm⟩ : ∃ m : Int, Hid (wd - (z : Int) = m) := ⟨_, Lib.hid rfl⟩
        have hm2 := hm.out
        have hb := pl.miss_bound (wd := wd) (a := (z : Int)) (by omega) hzw hwd
        rw [hm.out] at hb
        have hn2 : Hid (c + m * m = pl.costTo wd (rz rs) (k + 1)) := Lib.hid (by
          rw [pl.costTo_succ, ← hc.out, hzk.out, hm.out])
        have HB2 := Lib.hid (hbel.alloc hbel.size (.cells #[.int .i64 f, .int .i64 q, .int .i64 z] 48))
        go_wp2_with fail
        go_roundw
        case rel => exact ⟨k + 1, c + m * m, by omega, by go_num, by go_num, hn2, HB2.out⟩
        case measure => simp [intOf]; omega
      · obtain rfl : k = p := by omega
        have he : Hid (c = pl.costTo wd (rz rs) (k + 1 - 1)) := Lib.hid (by rw [hc.out]; rfl)
        go_wp2_with fail
        go_ret
        exact ⟨by rw [← he.out]; rfl, hbel⟩

theorem made_rows (n : Nat) : (madeCells #[.int .i64 0, .int .i64 0, .int .i64 0] (n * 3)).toList = rowsC (List.replicate n (0, 0, 0)) := by
  apply List.ext_getElem?
  intro j
  by_cases hj : j < n * 3
  · have e : j = j / 3 * 3 + j % 3 := by omega
    have h3 : j % 3 < 3 := Nat.mod_lt _ (by omega)
    have hr : (List.replicate n ((0, 0, 0) : Tr))[j / 3]? = some (0, 0, 0) := by rw [List.getElem?_replicate, if_pos (by omega)]
    have h := rowsC_get (List.replicate n (0, 0, 0)) (j / 3) (j % 3) (0, 0, 0) hr h3
    rw [← e] at h
    rw [h]
    have hm : j % 3 = 0 ∨ j % 3 = 1 ∨ j % 3 = 2 := by omega
    rcases hm with h | h | h <;> simp [madeCells, hj, h, rowC]
  · have h1 : (rowsC (List.replicate n ((0, 0, 0) : Tr))).length = n * 3 := by rw [rowsC_len, List.length_replicate]
    rw [List.getElem?_eq_none (l := rowsC _) (by rw [h1]; omega)]
    simp [madeCells, hj]
theorem rowsC_size : ∀ (rs : List Tr) (k z : Nat) (f q y : Nat), rs[k]? = some (f, q, y) → (rowsC rs).set (k * 3 + 2) (.int .i64 z) = rowsC (rs.set k (f, q, z))
  | [], k, z, f, q, y, h => by simp at h
  | r :: rs, 0, z, f, q, y, h => by simp at h; subst h; simp [rowsC, rowC]
  | r :: rs, k + 1, z, f, q, y, h => by
    have ih := rowsC_size rs k z f q y (by simpa using h)
    rw [List.set_cons_succ]
    show (rowC r ++ rowsC rs).set ((k + 1) * 3 + 2) _ = rowC r ++ rowsC (rs.set k (f, q, z))
    rw [← ih, List.set_append_right _ _ (by show 3 ≤ _; omega)]
    congr 2
    show (k + 1) * 3 + 2 - 3 = _
    omega
def CInv (l : List ByteArray) (rs : List Tr) (k : Nat) : Prop := rs.length = l.length ∧ ∀ i, i < l.length → rs[i]? = some (0, 0, if i < k then (nth l i).size else 0)

set_option maxHeartbeats 2000000 in
theorem iCostOf_any (l : List ByteArray) (wd : Int) (v : Value) (w : World) (hr : RStrs w v l) (hlen : l.length ≤ maxLen) (hsz : ∀ i, i < l.length → (nth l i).size ≤ maxLen) :
    Calls Try.prog 25 #[v, .int .i64 wd] w fun e w' => e = .returned (.int .i64 (pl.costR l wd)) ∧ Below w.heap.size w w' := by
  obtain ⟨i0, hi, hz0, hz1, hz2⟩ := info_parts infoRow
  by_cases hv : pl.validLs l = true
  · by_cases hin : pl.inR wd 1 120 = true
    · obtain ⟨n, hne⟩ : ∃ n, n = l.length := ⟨_, rfl⟩
      have h20 : n ≤ 20 := by rw [hne]; exact pl.validLs_len hv
      have hwd := pl.inR_parts hin
      have HV := Lib.hid hv
      have HI := Lib.hid hin
      have HS := Lib.hid hsz
      have HLn := Lib.hid hlen
      have HR := Lib.hid hr
      have HM : Hid (∀ i, i < l.length → (nth l i).size ≤ 120) := Lib.hid (pl.validLs_size hv)
      obtain ⟨a0, cap0, rfl⟩ := hr.slice
      rw [← hne] at HR ⊢
      have HN := Lib.hid hne
      clear hne hr hv hin hsz hlen
      go_enter Try.func25, Try.ntmps25
      go_wp2_with fail
      refine (ivalidLines_any l _ _ HR.out HLn.out HS.out).mono ?_
      rintro e w1 ⟨rfl, hb1⟩
      rw [HV.out]
      go_wp2_with fail
      refine (isWidth_any _ _).mono ?_
      rintro e w' ⟨rfl, rfl⟩
      rw [HI.out]
      go_wp2_with (at_make; refine wpList_make_full _ rfl _ _ 46 rfl w.heap.size 48 i0 (.agg #[.int .i64 0, .int .i64 0, .int .i64 0]) 3 Try.underlying46 hi hz0 hz1 _ _ _ _ n rfl rfl rfl rfl ?b1 ?b2 ?b3 ?_)
      case b1 => rw [hz2]; omega
      case b2 => unfold maxLen; omega
      case b3 => exact hb1.size
      intro w2 hown hgrow
      have hb2 : Below w.heap.size w w2 := hb1.grown hgrow hb1.size (fun g hg => by cases hg)
      have hsz1 := Lib.hid hb1.size
      obtain ⟨G, hG⟩ : ∃ G, Hid (w1.heap.size = G) := ⟨_, Lib.hid rfl⟩
      rw [hG.out] at hown ⊢
      have hGw : w.heap.size ≤ G := by rw [← hG.out]; exact hsz1.out
      have hown1 : w2.ownsRow w.heap.size 48 3 (.slice (some ⟨G, 0, none⟩) n n) n (rowsC (List.replicate n (0, 0, 0))) := by
        rw [← made_rows]; exact hown
      clear hown hgrow hb1 hsz1
      have hst : Hid (CInv l (List.replicate n (0, 0, 0)) 0) := Lib.hid ⟨by rw [List.length_replicate]; exact HN.out, fun i hi => by
        rw [List.getElem?_replicate, if_pos (by rw [HN.out]; exact hi), if_neg (by omega)]⟩
      go_wp2_with fail
      go_loopw [21] (fun iv wr => ∃ (k : Nat) (rs : List Tr), k ≤ n ∧ iv = .int .i64 k ∧ Hid (CInv l rs k) ∧ Hid (∀ i, i < k → ((nth l i).size : Int) ≤ wd) ∧ wr.ownsRow w.heap.size 48 3 (.slice (some ⟨G, 0, none⟩) n n) n (rowsC rs) ∧ Below w.heap.size w wr) (fun iv _ => n - (intOf iv).toNat)
      case atStart => exact ⟨0, _, Nat.zero_le _, rfl, hst, Lib.hid (fun i h => absurd h (by omega)), hown1, hb2⟩
      case round =>
        obtain ⟨k, rs, hk, rfl, hinv, hsh, hown, hbel⟩ := hrel
        by_cases hlt : k < n
        · obtain ⟨b1, o1, rfl, hx⟩ := HR.out.at HN.out hbel hlt
          obtain ⟨x, HX⟩ : ∃ x, Hid (nth l k = x) := ⟨_, Lib.hid rfl⟩
          have hx120 := HM.out k (by rw [← HN.out]; exact hlt)
          rw [HX.out] at hx hx120
          by_cases hlong : wd < (x.size : Int)
          · have hb := Lib.hid (pl.costR_no (l := l) (wd := wd) (.inr (.inr (pl.shortAll_no (k := k) (by rw [← HN.out]; exact hlt) (by rw [HX.out]; exact hlong)))))
            clear hown
            go_wp2_with fail
            go_ret
            exact ⟨by rw [hb.out]; rfl, hbel⟩
          · have hsh2 : Hid (∀ i, i < k + 1 → ((nth l i).size : Int) ≤ wd) := Lib.hid (fun i hi => by
              by_cases e : i = k
              · subst e; rw [HX.out]; omega
              · exact hsh.out i (by omega))
            have hrk : Hid (rs[k]? = some (0, 0, 0)) := Lib.hid (by have := hinv.out.2 k (by rw [← HN.out]; exact hlt); rw [if_neg (by omega)] at this; exact this)
            obtain ⟨c1, c2, c3⟩ := own_rows hown (by rw [hinv.out.1]; exact HN.out) k (0, 0, 0) hrk.out
            dsimp only at c1 c2 c3
            have f3 := World.ownsRow.frozenAt hown (k * 3 + 2)
            have hst3 := (World.ownsRow.stored hown (k * 3 + 2) (.int .i64 x.size)).1
            rw [rowsC_size rs k x.size 0 0 0 hrk.out] at hst3
            have HO := Lib.hid hst3
            have HB := Lib.hid (hbel.setCell (p := ⟨G, k * 3 + 2, none⟩) hGw (.int .i64 x.size))
            have hn2 : Hid (CInv l (rs.set k (0, 0, x.size)) (k + 1)) := Lib.hid ⟨by rw [List.length_set]; exact hinv.out.1, fun i hi => by
              by_cases e : i = k
              · subst e
                rw [List.getElem?_set_self (by rw [hinv.out.1]; exact hi), if_pos (by omega), HX.out]
              · rw [List.getElem?_set_ne (by omega), hinv.out.2 i hi]
                by_cases e2 : i < k
                · rw [if_pos e2, if_pos (by omega)]
                · rw [if_neg e2, if_neg (by omega)]⟩
            clear hown hst3 hbel
            go_wp2_with fail
            go_roundw
            case rel => exact ⟨k + 1, _, by omega, by go_num, hn2, hsh2, HO.out, HB.out⟩
            case measure => simp [intOf]; omega
        · obtain rfl : k = n := by omega
          have hres : Hid (pl.costTo wd (rz rs) (rs.length - 1) = pl.costR l wd) := Lib.hid (by
            rw [pl.costR_yes HV.out HI.out (pl.shortAll_yes (by rw [← HN.out]; exact hsh.out))]
            unfold pl.costL
            rw [hinv.out.1]
            exact pl.costTo_congr _ (fun i hi => by
              have := hinv.out.2 i (by omega)
              rw [if_pos (by rw [HN.out]; omega)] at this
              unfold rz pl.lsz
              rw [List.getD_eq_getElem?_getD, this]; rfl))
          have hrl : Hid (rs.length = k) := Lib.hid (by rw [hinv.out.1]; exact HN.out.symm)
          have hG : Hid (RRows wr (.slice (some ⟨G, 0, none⟩) k k) rs) := Lib.hid (by
            have h : ORows w.heap.size wr (.slice (some ⟨G, 0, none⟩) k k) rs := by unfold ORows; rw [hrl.out]; exact hown
            exact h.reads)
          have hz : Hid (∀ i, i < rs.length → rz rs i ≤ wd) := Lib.hid (fun i hi => by
            have h1 := hinv.out.2 i (by rw [← hinv.out.1]; exact hi)
            rw [hrl.out] at hi
            rw [if_pos hi] at h1
            unfold rz
            rw [List.getD_eq_getElem?_getD, h1]
            exact hsh.out i hi)
          clear hown
          go_wp2_with fail
          refine (costOfWay_any rs wd _ _ hG.out (by rw [hrl.out]; omega) hwd.2 hwd.1 hz.out).mono ?_
          rintro e w3 ⟨rfl, hb3⟩
          rw [hres.out]
          have HB := Lib.hid (hbel.trans (hb3.mono hbel.size))
          go_wp2_with fail
          go_ret
          exact ⟨rfl, HB.out⟩
    · have hin' : pl.inR wd 1 120 = false := by simpa using hin
      have hb := Lib.hid (pl.costR_no (l := l) (wd := wd) (.inr (.inl hin')))
      clear hin
      go_enter Try.func25, Try.ntmps25
      go_wp2_with fail
      refine (ivalidLines_any l _ _ hr hlen hsz).mono ?_
      rintro e w1 ⟨rfl, hb1⟩
      rw [hv]
      go_wp2_with fail
      refine (isWidth_any _ _).mono ?_
      rintro e w' ⟨rfl, rfl⟩
      rw [hin']
      go_wp2_with fail
      go_ret
      exact ⟨by rw [hb.out]; rfl, hb1⟩
  · have hv' : pl.validLs l = false := by simpa using hv
    have hb := Lib.hid (pl.costR_no (l := l) (wd := wd) (.inl hv'))
    clear hv
    go_enter Try.func25, Try.ntmps25
    go_wp2_with fail
    refine (ivalidLines_any l _ _ hr hlen hsz).mono ?_
    rintro e w1 ⟨rfl, hb1⟩
    rw [hv']
    go_wp2_with fail
    go_ret
    exact ⟨by rw [hb.out]; rfl, hb1⟩

set_option maxHeartbeats 1000000 in
theorem sCostOf_any (l : List ByteArray) (wd : Int) (v : Value) (w : World) (hr : RStrs w v l) (hlen : l.length ≤ maxLen) (hsz : ∀ i, i < l.length → (nth l i).size ≤ maxLen) :
    Calls Try.prog 26 #[v, .int .i64 wd] w fun e w' => e = .returned (.int .i64 (pl.costR l wd)) ∧ w = w' := by
  by_cases hv : pl.validLs l = true
  · by_cases hin : pl.inR wd 1 120 = true
    · obtain ⟨n, hne⟩ : ∃ n, n = l.length := ⟨_, rfl⟩
      have h20 : n ≤ 20 := by rw [hne]; exact pl.validLs_len hv
      have hwd := pl.inR_parts hin
      have HV := Lib.hid hv
      have HI := Lib.hid hin
      have HS := Lib.hid hsz
      have HLn := Lib.hid hlen
      have HR := Lib.hid hr
      have HM : Hid (∀ i, i < l.length → (nth l i).size ≤ 120) := Lib.hid (pl.validLs_size hv)
      obtain ⟨a0, cap0, rfl⟩ := hr.slice
      rw [← hne] at HR ⊢
      have HN := Lib.hid hne
      clear hne hr hv hin hsz hlen
      go_enter Try.func26, Try.ntmps26
      go_wp2_with fail
      refine (svalidLines_any l _ _ HR.out HLn.out HS.out).mono ?_
      rintro e w' ⟨rfl, rfl⟩
      rw [HV.out]
      go_wp2_with fail
      refine (inRange_any _ _ _ _).mono ?_
      rintro e w' ⟨rfl, rfl⟩
      rw [HI.out]
      go_wp2_with fail
      go_loop [5] (fun iv => ∃ k : Nat, k ≤ n ∧ iv = .int .i64 k ∧ Hid (∀ i, i < k → ((nth l i).size : Int) ≤ wd)) (fun iv => n - (intOf iv).toNat)
      case atStart => exact ⟨0, Nat.zero_le _, rfl, Lib.hid (fun i h => absurd h (by omega))⟩
      case round =>
        obtain ⟨k, hk, rfl, hsh⟩ := hrel
        by_cases hlt : k < n
        · obtain ⟨b1, o1, rfl, hx⟩ := HR.out.at HN.out (Below.refl _ _) hlt
          obtain ⟨x, HX⟩ : ∃ x, Hid (nth l k = x) := ⟨_, Lib.hid rfl⟩
          have hx120 := HM.out k (by rw [← HN.out]; exact hlt)
          rw [HX.out] at hx hx120
          by_cases hlong : wd < (x.size : Int)
          · have hb := Lib.hid (pl.costR_no (l := l) (wd := wd) (.inr (.inr (pl.shortAll_no (k := k) (by rw [← HN.out]; exact hlt) (by rw [HX.out]; exact hlong)))))
            go_wp2_with fail
            go_ret
            exact ⟨by rw [hb.out]; rfl, rfl⟩
          · have hsh2 : Hid (∀ i, i < k + 1 → ((nth l i).size : Int) ≤ wd) := Lib.hid (fun i hi => by
              by_cases e : i = k
              · subst e; rw [HX.out]; omega
              · exact hsh.out i (by omega))
            go_wp2_with fail
            go_round
            case rel => exact ⟨k + 1, by omega, by go_num, hsh2⟩
            case measure => simp [intOf]; omega
        · obtain rfl : k = n := by omega
          have hres : Hid (pl.costL l wd = pl.costR l wd) := Lib.hid (pl.costR_yes HV.out HI.out (pl.shortAll_yes (by rw [← HN.out]; exact hsh.out))).symm
          go_wp2_with fail
          refine (scost_any l wd _ _ HR.out (by rw [← HN.out]; exact h20) hwd.2 hwd.1 (by rw [← HN.out]; exact hsh.out)).mono ?_
          rintro e w' ⟨rfl, rfl⟩
          rw [hres.out]
          go_wp2_with fail
          go_ret
          exact ⟨rfl, rfl⟩
    · have hin' : pl.inR wd 1 120 = false := by simpa using hin
      have hb := Lib.hid (pl.costR_no (l := l) (wd := wd) (.inr (.inl hin')))
      clear hin
      go_enter Try.func26, Try.ntmps26
      go_wp2_with fail
      refine (svalidLines_any l _ _ hr hlen hsz).mono ?_
      rintro e w' ⟨rfl, rfl⟩
      rw [hv]
      go_wp2_with fail
      refine (inRange_any _ _ _ _).mono ?_
      rintro e w' ⟨rfl, rfl⟩
      rw [hin']
      go_wp2_with fail
      go_ret
      exact ⟨by rw [hb.out]; rfl, rfl⟩
  · have hv' : pl.validLs l = false := by simpa using hv
    have hb := Lib.hid (pl.costR_no (l := l) (wd := wd) (.inl hv'))
    clear hv
    go_enter Try.func26, Try.ntmps26
    go_wp2_with fail
    refine (svalidLines_any l _ _ hr hlen hsz).mono ?_
    rintro e w' ⟨rfl, rfl⟩
    rw [hv']
    go_wp2_with fail
    go_ret
    exact ⟨by rw [hb.out]; rfl, rfl⟩
end Go.Proofs.Ytfajllfedhifkaa
