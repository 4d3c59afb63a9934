/- The iterator over all ways: walked with yield as its argument. -/
import Derived.RangeFuncNested
import Derived.RangeFuncBound
import Derived.RangeFuncCalls
import Derived.RangeFuncLeaves
import Derived.Shelf.RegionOpen
import Derived.OwnWalkIn
import Derived.TacticsInMore
import Derived.LoopNIn
import Derived.LoopIn
import Derived.ScopeJumps
import Derived.Scope
import Derived.WalkMore
import Derived.Test.YtfajllfedhifkaaWrap
import Derived.Test.YtfajllfedhifkaaPlainB
import Derived.Lib.RabinKarpLaws
import Derived.Sort.QuietIn
namespace Go.Proofs.Ytfajllfedhifkaa
open Go.RowKit
set_option maxRecDepth 100000
attribute [local go_sem] Oper.semAt_some

theorem wpIn_scope_wide {n : Nat} {P : Program} {c : Code} {Q : Exit → Act → World → Prop} {a : Act} {w : World} (h : c.wpIn Fence.wide n P (Exit.noGoto Q) a w) : (Code.scope c).wpIn Fence.wide n P Q a w :=
  wpIn_wide.2 (wp_scope_straight (wpIn_wide.1 h))

theorem shl_width : ∀ N : Nat, N < 10 → wrap64 (2 ^ (max ((N : Int) - 1) 0).toNat) = ((2 ^ (N - 1) : Nat) : Int) := by
  intro N hN
  have e : (max ((N : Int) - 1) 0).toNat = N - 1 := by omega
  rw [e]
  have h : N = 0 ∨ N = 1 ∨ N = 2 ∨ N = 3 ∨ N = 4 ∨ N = 5 ∨ N = 6 ∨ N = 7 ∨ N = 8 ∨ N = 9 := by omega
  rcases h with h | h | h | h | h | h | h | h | h | h <;> subst h <;> unfold wrap64 <;> decide
theorem op_bits (m k : Nat) (hm : m ≤ 256) (gs : pl.Gs) (x : ByteArray) : (((k : Int) == 0) || (bits BinOp.and IntKind.i64 ((m : Int) / 2 ^ (k - 1)) 1 == 1)) = pl.opB m k gs x := by
  have e : (m : Int) / 2 ^ (k - 1) = ((m / 2 ^ (k - 1) : Nat) : Int) := by rw [Int.natCast_ediv, Int.natCast_pow]; rfl
  have hb : m / 2 ^ (k - 1) < 9223372036854775808 := Nat.lt_of_le_of_lt (Nat.div_le_self _ _) (by omega)
  rw [e, Go.Proofs.and_one _ hb]
  unfold pl.opB
  congr 1
  · by_cases h : k = 0
    · subst h; rfl
    · rw [decide_eq_false h]; simp; omega
  · by_cases h : m / 2 ^ (k - 1) % 2 = 1
    · rw [h]; rfl
    · rw [decide_eq_false h]; simp; omega
theorem pow_256 : ∀ N : Nat, N < 10 → 2 ^ (N - 1) ≤ 256 := by decide

set_option maxHeartbeats 4000000 in
theorem ways_in (n : Nat) (hn : 1 ≤ n) (lr bl bw N : Nat) (a0 : Option Addr) (cap0 : Nat) (l : List ByteArray) (wd : Int) (J : Nat → World → Prop) (HN : Hid (N = l.length)) (hl9 : N ≤ 9) (h12 : ∀ x ∈ l, x.size ≤ 12)
    (hJs : ∀ m W W', J m W → Below W.heap.size W W' → J m W')
    (hJc : ∀ m W, J m W → W.cell? ⟨bl, 0, none⟩ = some (.slice a0 N cap0) ∧ W.cell? ⟨bw, 0, none⟩ = some (.int .i64 wd) ∧ RStrs W (.slice a0 N cap0) l)
    (hJn : ∀ m W, J m W → m < 2 ^ (l.length - 1) → pl.fitG wd (pl.wayB m l l.length) = false → J (m + 1) W)
    (hY : ∀ m x W, J m W → m < 2 ^ (l.length - 1) → pl.fitG wd (pl.wayB m l l.length) = true → (∃ W0, J m W0 ∧ ORows W0.heap.size W x (rowsG 0 (pl.wayB m l l.length))) → YieldAt Fence.wide (n - 1) Try.prog lr #[x] W fun e W' => e = .returned (.bool true) ∧ J (m + 1) W')
    (W : World) (h0 : J 0 W) :
    CallsIn Fence.wide n Try.prog 80 #[.func (.yield lr) #[] #[], .pointer (some ⟨bl, 0, none⟩), .pointer (some ⟨bw, 0, none⟩)] W fun e W' => (∃ v, e = .returned v) ∧ J (2 ^ (l.length - 1)) W' := by
  refine callsIn_of_wp Try.func80 rfl trivial ?_ rfl
  simp only [Try.ntmps80, List.size_toArray, List.length_cons, List.length_nil, Nat.reduceAdd, Nat.reduceSub, Array.replicate_succ, Array.replicate_zero, List.push_toArray, List.append_toArray, List.nil_append, List.cons_append]
  obtain ⟨c1, c2, c3⟩ := hJc 0 W h0
  gi_wp2_with fail
  refine wpIn_scope_wide ?_
  gi_wp2_with fail
  refine wpIn_label ?_
  simp only [Exit.then]
  gi_wp2_with fail
  obtain ⟨T, hT⟩ : ∃ T, Hid (2 ^ (N - 1) = T) := ⟨_, Lib.hid rfl⟩
  have hTe : wrap64 (2 ^ (max ((N : Int) - 1) 0).toNat) = (T : Int) := by rw [shl_width N (by omega), hT.out]
  have hTb : T ≤ 256 := by rw [← hT.out]; exact pow_256 N (by omega)
  rw [hTe]
  have hT2 : Hid (2 ^ (l.length - 1) = T) := Lib.hid (by rw [← HN.out]; exact hT.out)
  gi_loopw [14] (fun iv wr => ∃ m : Nat, m ≤ T ∧ iv = .int .i64 m ∧ J m wr) (fun iv _ => T - (intOf iv).toNat)
  case atStart => exact ⟨0, Nat.zero_le _, rfl, h0⟩
  case round =>
    obtain ⟨m, hm, rfl, hJm⟩ := hrel
    obtain ⟨W0, rfl⟩ : ∃ W0, W0 = wr := ⟨_, rfl⟩
    obtain ⟨c1, c2, c3⟩ := hJc m W0 hJm
    by_cases hlt : m < T
    · gi_wp2_with fail
      gi_loopw [5, 19] (fun vv iv wq => ∃ k : Nat, k ≤ N ∧ iv = .int .i64 k ∧ ORows W0.heap.size wq vv (rowsG 0 (pl.wayB m l k)) ∧ (k = 0 → vv = .slice none 0 0) ∧ Hid (pl.fitG wd (pl.wayB m l k) = true) ∧ Below W0.heap.size W0 wq) (fun _ iv _ => N - (intOf iv).toNat)
      case atStart => exact ⟨0, Nat.zero_le _, rfl, ORows.nil _ _, fun _ => rfl, Lib.hid rfl, Below.refl _ _⟩
      case round =>
        obtain ⟨k, hk, rfl, hown, hv0, hfit, hbel⟩ := hrel
        by_cases hkl : k < N
        · obtain ⟨b1, o1, rfl, hx⟩ := c3.at HN.out hbel hkl
          obtain ⟨x, HX⟩ : ∃ x, Hid (nth l k = x) := ⟨_, Lib.hid rfl⟩
          have hx12 : x.size ≤ 12 := by
            rw [← HX.out, nth_eq (by rw [← HN.out]; exact hkl)]
            exact h12 _ (List.getElem_mem _)
          rw [HX.out] at hx
          have hfl : Hid ((pl.wayB m l k).flatten = l.take k) := Lib.hid (pl.grW_flatten _ _ _ (by rw [← HN.out]; exact hk))
          have hflen : Hid ((pl.wayB m l k).flatten.length = k) := Lib.hid (by rw [hfl.out, List.length_take, ← HN.out]; omega)
          have hfu : Hid (∀ g ∈ pl.wayB m l k, g ≠ []) := Lib.hid (pl.grW_full _ _ _)
          have hf12 : Hid (∀ y ∈ (pl.wayB m l k).flatten, y.size ≤ 12) := Lib.hid (fun y hy => by rw [hfl.out] at hy; exact h12 y (List.mem_of_mem_take hy))
          by_cases h0 : k = 0
          · subst h0
            have hnx : Hid (pl.putG (pl.wayB m l 0) x true = pl.wayB m l (0 + 1)) := Lib.hid (by rw [← HX.out]; rfl)
            have HO := Lib.hid hown
            have HB := Lib.hid hbel
            rw [Nat.add_zero] at hx
            clear hown hv0 hbel
            gi_wp2_with fail
            refine ⟨trivial, callsIn_wide.2 ((putWord_G W0.heap.size _ (pl.wayB m l 0) true 0 x _ HO.out HB.out.size hflen.out hfu.out (fun _ => rfl) (by omega) hf12.out hx12).mono ?_)⟩
            rintro e w2 ⟨v2, rfl, ho2, hb2⟩
            rw [hnx.out] at ho2
            have HB2 := Lib.hid (HB.out.trans hb2)
            obtain ⟨d, c, hdc, hcne⟩ : ∃ d c, pl.wayB m l (0 + 1) = d ++ [c] ∧ c ≠ [] := by
              obtain ⟨d, c, h1, _⟩ := pl.snocG (pl.grW_ne (pl.opB m) l (show 0 < 0 + 1 by omega))
              exact ⟨d, c, h1, pl.grW_full (pl.opB m) l (0 + 1) c (by rw [h1]; simp)⟩
            have HDC := Lib.hid hdc
            have HO2 := Lib.hid ho2
            rw [hdc, rowsG_snoc] at ho2
            obtain ⟨D, hD⟩ : ∃ D, Hid (d.flatten.length = D) := ⟨_, Lib.hid rfl⟩
            obtain ⟨C, hC⟩ : ∃ C, Hid (c.length = C) := ⟨_, Lib.hid rfl⟩
            obtain ⟨Z, hZ⟩ : ∃ Z, Hid (pl.szJ c = Z) := ⟨_, Lib.hid rfl⟩
            obtain ⟨M, hM⟩ : ∃ M, Hid ((rowsG 0 d).length = M) := ⟨_, Lib.hid rfl⟩
            have hMb : M ≤ 9 := by
              have h1 := pl.grW_len (pl.opB m) l (0 + 1)
              have h2 : (pl.wayB m l (0 + 1)).length ≤ 0 + 1 := h1
              rw [hdc, List.length_append, List.length_singleton] at h2
              rw [← hM.out, rowsG_len]; omega
            rw [hD.out, hC.out, hZ.out] at ho2
            obtain ⟨g, cap, rfl, hBg, hgw⟩ := World.ownsRow.form ho2 (by simp)
            have hl1 : (rowsG 0 d ++ [(D, C, Z)]).length = M + 1 := by rw [List.length_append, hM.out]; rfl
            unfold ORows at ho2
            rw [hl1] at ho2 HO2 ⊢
            obtain ⟨k1, k2, k3⟩ := own_rows ho2 hl1.symm M (D, C, Z) (by rw [← hM.out]; simp)
            dsimp only at k1 k2 k3
            have c2' := (HB2.out.cell (p := ⟨bw, 0, none⟩) (World.block_lt_of_cell? _ _ c2)).trans c2
            clear ho2 hb2 hdc hcne hl1
            by_cases hlong : wd < (Z : Int)
            · have HJL : Hid (∀ q, J (m + 1) (w2.drewN q)) := Lib.hid (fun q => by
                have hbad : pl.fitG wd (pl.wayB m l (0 + 1)) = false := by
                  rw [HDC.out, pl.fitG_append]
                  have : pl.fitL wd c = false := by unfold pl.fitL; rw [hZ.out]; exact decide_eq_false (by omega)
                  rw [pl.fitG_cons, this]; simp
                have hbad2 := pl.fit_later hbad (l.length - (0 + 1))
                rw [show 0 + 1 + (l.length - (0 + 1)) = l.length from by have := HN.out; omega] at hbad2
                exact hJn m _ (hJs m W0 _ hJm (HB2.out.trans below_drewN)) (by rw [hT2.out]; exact hlt) hbad2)
              gi_wp2_with fail
              gi_quiet (fail)
              gi_wp2_with fail
              go_roundw
              case rel => exact ⟨m + 1, by omega, by go_num, HJL.out _⟩
              case measure => simp [intOf]; omega
            · have hfit2 : Hid (pl.fitG wd (pl.wayB m l (0 + 1)) = true) := Lib.hid (by
                have e := pl.fitG_last (wd := wd) (gs := pl.wayB m l (0 + 1)) (pl.grW_ne _ _ (by omega))
                have h1 : pl.wayB m l (0 + 1) = pl.putG (pl.wayB m l 0) (nth l 0) (pl.opB m 0 (pl.wayB m l 0) (nth l 0)) := rfl
                have h2 : pl.fitL wd (pl.lastG (pl.wayB m l (0 + 1))) = true := by
                  rw [HDC.out, pl.lastG_snoc]; unfold pl.fitL; rw [hZ.out]; exact decide_eq_true (by omega)
                rw [h1] at h2 ⊢
                exact pl.fitG_put_ok hfit.out h2)
              gi_wp2_with fail
              gi_quiet (fail)
              gi_wp2_with fail
              go_roundw
              case rel => exact ⟨0 + 1, by omega, by go_num, HO2.out.below (Nat.le_refl _) below_drewN, fun h => absurd h (by omega), hfit2, HB2.out.trans below_drewN⟩
              case measure => simp [intOf]; omega
          · obtain ⟨op, hop⟩ : ∃ op, Hid ((((k : Int) == 0) || (bits BinOp.and IntKind.i64 ((m : Int) / 2 ^ (k - 1)) 1 == 1)) = op) := ⟨_, Lib.hid rfl⟩
            have hnx : Hid (pl.putG (pl.wayB m l k) x op = pl.wayB m l (k + 1)) := Lib.hid (by
              have h1 : pl.wayB m l (k + 1) = pl.putG (pl.wayB m l k) (nth l k) (pl.opB m k (pl.wayB m l k) (nth l k)) := rfl
              rw [h1, ← hop.out, op_bits m k (by omega) (pl.wayB m l k) (nth l k), HX.out])
            have hopn : Hid (pl.wayB m l k = [] → op = true) := Lib.hid (fun h => absurd h (pl.grW_ne _ _ (by omega)))
            have h0i : ¬ (k : Int) = 0 := by omega
            have HO := Lib.hid hown
            have HB := Lib.hid hbel
            clear hown hv0 hbel
            gi_wp2_with fail
            rw [hop.out]
            refine ⟨trivial, callsIn_wide.2 ((putWord_G W0.heap.size _ (pl.wayB m l k) op k x _ HO.out HB.out.size hflen.out hfu.out hopn.out (by omega) hf12.out hx12).mono ?_)⟩
            rintro e w2 ⟨v2, rfl, ho2, hb2⟩
            rw [hnx.out] at ho2
            have HB2 := Lib.hid (HB.out.trans hb2)
            obtain ⟨d, c, hdc, hcne⟩ : ∃ d c, pl.wayB m l (k + 1) = d ++ [c] ∧ c ≠ [] := by
              obtain ⟨d, c, h1, _⟩ := pl.snocG (pl.grW_ne (pl.opB m) l (show 0 < k + 1 by omega))
              exact ⟨d, c, h1, pl.grW_full (pl.opB m) l (k + 1) c (by rw [h1]; simp)⟩
            have HDC := Lib.hid hdc
            have HO2 := Lib.hid ho2
            rw [hdc, rowsG_snoc] at ho2
            obtain ⟨D, hD⟩ : ∃ D, Hid (d.flatten.length = D) := ⟨_, Lib.hid rfl⟩
            obtain ⟨C, hC⟩ : ∃ C, Hid (c.length = C) := ⟨_, Lib.hid rfl⟩
            obtain ⟨Z, hZ⟩ : ∃ Z, Hid (pl.szJ c = Z) := ⟨_, Lib.hid rfl⟩
            obtain ⟨M, hM⟩ : ∃ M, Hid ((rowsG 0 d).length = M) := ⟨_, Lib.hid rfl⟩
            have hMb : M ≤ 9 := by
              have h1 := pl.grW_len (pl.opB m) l (k + 1)
              have h2 : (pl.wayB m l (k + 1)).length ≤ k + 1 := h1
              rw [hdc, List.length_append, List.length_singleton] at h2
              rw [← hM.out, rowsG_len]; omega
            rw [hD.out, hC.out, hZ.out] at ho2
            obtain ⟨g, cap, rfl, hBg, hgw⟩ := World.ownsRow.form ho2 (by simp)
            have hl1 : (rowsG 0 d ++ [(D, C, Z)]).length = M + 1 := by rw [List.length_append, hM.out]; rfl
            unfold ORows at ho2
            rw [hl1] at ho2 HO2 ⊢
            obtain ⟨k1, k2, k3⟩ := own_rows ho2 hl1.symm M (D, C, Z) (by rw [← hM.out]; simp)
            dsimp only at k1 k2 k3
            have c2' := (HB2.out.cell (p := ⟨bw, 0, none⟩) (World.block_lt_of_cell? _ _ c2)).trans c2
            clear ho2 hb2 hdc hcne hl1
            by_cases hlong : wd < (Z : Int)
            · have HJL : Hid (∀ q, J (m + 1) (w2.drewN q)) := Lib.hid (fun q => by
                have hbad : pl.fitG wd (pl.wayB m l (k + 1)) = false := by
                  rw [HDC.out, pl.fitG_append]
                  have : pl.fitL wd c = false := by unfold pl.fitL; rw [hZ.out]; exact decide_eq_false (by omega)
                  rw [pl.fitG_cons, this]; simp
                have hbad2 := pl.fit_later hbad (l.length - (k + 1))
                rw [show k + 1 + (l.length - (k + 1)) = l.length from by have := HN.out; omega] at hbad2
                exact hJn m _ (hJs m W0 _ hJm (HB2.out.trans below_drewN)) (by rw [hT2.out]; exact hlt) hbad2)
              gi_wp2_with fail
              gi_quiet (fail)
              gi_wp2_with fail
              go_roundw
              case rel => exact ⟨m + 1, by omega, by go_num, HJL.out _⟩
              case measure => simp [intOf]; omega
            · have hfit2 : Hid (pl.fitG wd (pl.wayB m l (k + 1)) = true) := Lib.hid (by
                have e := pl.fitG_last (wd := wd) (gs := pl.wayB m l (k + 1)) (pl.grW_ne _ _ (by omega))
                have h1 : pl.wayB m l (k + 1) = pl.putG (pl.wayB m l k) (nth l k) (pl.opB m k (pl.wayB m l k) (nth l k)) := rfl
                have h2 : pl.fitL wd (pl.lastG (pl.wayB m l (k + 1))) = true := by
                  rw [HDC.out, pl.lastG_snoc]; unfold pl.fitL; rw [hZ.out]; exact decide_eq_true (by omega)
                rw [h1] at h2 ⊢
                exact pl.fitG_put_ok hfit.out h2)
              gi_wp2_with fail
              gi_quiet (fail)
              gi_wp2_with fail
              go_roundw
              case rel => exact ⟨k + 1, by omega, by go_num, HO2.out.below (Nat.le_refl _) below_drewN, fun h => absurd h (by omega), hfit2, HB2.out.trans below_drewN⟩
              case measure => simp [intOf]; omega
        · obtain rfl : k = N := by omega
          have hfit3 : Hid (pl.fitG wd (pl.wayB m l l.length) = true) := Lib.hid (by rw [← HN.out]; exact hfit.out)
          have hRR : Hid (∃ W1, J m W1 ∧ ORows W1.heap.size wr _ (rowsG 0 (pl.wayB m l k))) := Lib.hid ⟨W0, hJm, hown⟩
          obtain ⟨fn, tmps, assign, body, hy, hR⟩ := hY m _ wr (hJs m W0 wr hJm hbel) (by rw [hT2.out]; exact hlt) hfit3.out (by rw [← HN.out]; exact hRR.out)
          clear hown hv0
          gi_wp2_with fail
          refine hR.mono ?_
          rintro e W3 ⟨rfl, hJ3⟩
          gi_wp2_with fail
          go_roundw
          case rel => exact ⟨m + 1, by omega, by go_num, hJ3⟩
          case measure => simp [intOf]; omega
    · obtain rfl : m = T := by omega
      gi_wp2_with fail
      rw [Exit.noGoto_normal]
      go_end0
      exact ⟨⟨_, rfl⟩, by rw [hT2.out]; exact hJm⟩
end Go.Proofs.Ytfajllfedhifkaa
