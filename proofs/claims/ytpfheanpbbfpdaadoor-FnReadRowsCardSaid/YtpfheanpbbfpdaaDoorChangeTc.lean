/- Contract: changeLines with one change (Tc). -/
import Derived.Test.YtpfheanpbbfpdaaDoorChg0
import Derived.Test.YtpfheanpbbfpdaaDoorTrimC
namespace Go.Proofs.YtpfheanpbbfpdaaDoor
open Go.RowKit
set_option maxRecDepth 100000
set_option linter.unusedVariables false

set_option maxHeartbeats 4000000 in
theorem changeTc_any (l : List ByteArray) (v : Value) (gc : Nat)  (w : World) (hr : RStrs w v l) (hlen : l.length ≤ 1048576) (hsz : ∀ i, i < l.length → (nth l i).size ≤ 1048576) (hsm : ∀ i, i < l.length → (nth l i).size ≤ 1000)
    (hgc : gc < w.heap.size) (h0 : w.cell? ⟨gc, 0, none⟩ = some (.func (.func 55) #[] #[])) :
    Calls Tryd.prog 53 #[v, .slice (some ⟨gc, 0, none⟩) 1 1] w fun e w' => ∃ v', e = .returned v' ∧ OStrs w.heap.size w' v' (l.map pl.trimB) ∧ Below w.heap.size w w' := by
  obtain ⟨i0, hi, hz0, hz1, hz2⟩ := info_parts infoS
  obtain ⟨n, hn⟩ : ∃ n, n = l.length := ⟨_, rfl⟩
  have HN := Lib.hid hn
  have HSZ := Lib.hid hsz
  have hrr := Lib.hid hr
  have H0 := Lib.hid h0
  have HSM := Lib.hid hsm
  obtain ⟨a0, cap0, rfl⟩ := hr.slice
  rw [← hn] at hlen hrr ⊢
  clear hn hr hsz h0 hsm
  go_enter Tryd.func53, Tryd.ntmps53
  go_wp2_with (at_make; refine wpList_make_full _ rfl _ _ 23 rfl w.heap.size 9 i0 (.string ByteArray.empty) 1 Tryd.underlying23 hi hz0 hz1 _ _ _ _ n rfl rfl rfl rfl ?b1 ?b2 ?b3 ?_)
  case b1 => rw [hz2]; omega
  case b2 => unfold maxLen; omega
  case b3 => exact Nat.le_refl _
  intro w1 hown hgrow
  have hb0 : Below w.heap.size w w1 := (Below.refl _ _).grown hgrow (Nat.le_refl _) (fun g hg => by cases hg)
  obtain ⟨cur, hrow, hcur⟩ := own_row hown
  have HC := Lib.hid hcur
  have HR := Lib.hid hrow
  have HB0 := Lib.hid hb0
  clear hown hgrow hcur hrow hb0
  go_wp2_with (refine wpList_copy_splice rfl (.tmp 12) (.tmp 13) 23 23 rfl 9 Tryd.underlying23 (by kernel_rfl) _ _ _ _ _ _ rfl rfl w.heap.size 0 cur 9 HR.out (l.map Value.string) ?k1 ?k2 ?k3 ?k4 w.heap.size w HB0.out (Nat.le_refl _) ?_)
  case k1 => rw [List.length_map, ← HN.out]; simp
  case k2 =>
    intro hp
    have hq := hrr.out.src HB0.out (by rw [List.length_map]; simpa using hp)
    first | exact hq | exact ⟨rfl, hq⟩ | simpa using hq
  case k3 => rw [List.length_map, ← HN.out, HC.out]; omega
  case k4 => intro u hu; rw [List.mem_map] at hu; obtain ⟨s, _, rfl⟩ := hu; rfl
  intro w2 hg2 hb2
  have hown2 := own_back (B := w.heap.size) hg2.out HC.out HN.out.symm (Nat.le_refl _) (by unfold maxLen; omega)
  clear hg2 HR
  go_wp2_with fail
  go_loopw [17] (fun iv wr => ∃ (k : Nat) (l' : List ByteArray), k ≤ n ∧ iv = .int .i64 k ∧ Hid (pl.chg pl.trimB l l' k) ∧ wr.ownsRow w.heap.size 9 1 (.slice (some ⟨w.heap.size, 0, none⟩) n n) n (l'.map Value.string) ∧ Below w.heap.size w wr) (fun iv _ => n - (intOf iv).toNat)
  case atStart => exact ⟨0, l, Nat.zero_le _, rfl, Lib.hid (pl.chg_zero _ l), hown2, hb2⟩
  case round =>
    obtain ⟨k, l', hk, rfl, hinv, hown, hbel⟩ := hrel
    by_cases hlt : k < n
    · have hkl : Hid (k < l.length) := Lib.hid (by rw [← HN.out]; exact hlt)
      have hln : Hid (l'.length = n) := Lib.hid (hinv.out.1.trans HN.out.symm)
      obtain ⟨x, HX⟩ : ∃ x, Hid (nth l k = x) := ⟨_, Lib.hid rfl⟩
      have hx : wr.cell? ⟨w.heap.size, k, none⟩ = some (.string x) := by rw [own_cell hown hln.out hlt, pl.chg_at hinv.out hkl.out, HX.out]
      have hxm := HSZ.out k hkl.out
      rw [HX.out] at hxm
      have c0 := (hbel.cell (p := ⟨gc, 0, none⟩) hgc).trans H0.out
      have HOWN := Lib.hid hown
      have HBEL := Lib.hid hbel
      have htm : x.size ≤ 1000 := by have := HSM.out k hkl.out; rw [HX.out] at this; exact this
      clear hown hbel
      go_wp2_with fail
      refine wp_loop_rounds 2 ?_
      rw [rounds_succ]
      go_wp2_with fail
      refine (trimCell_any x _ (by omega)).mono ?_
      rintro e wr2 ⟨rfl, hb2⟩
      clear hx c0
      have HO2 := Lib.hid (own_below HOWN.out hb2)
      have HB2 := Lib.hid (HBEL.out.trans (hb2.mono HBEL.out.size))
      obtain ⟨y, HY⟩ : ∃ y, Hid (pl.trimB x = y) := ⟨_, Lib.hid rfl⟩
      rw [HY.out]
      have z2 := World.ownsRow.frozenAt HO2.out k
      have y2 := own_cell HO2.out hln.out hlt
      have HO3 := Lib.hid (own_store (j := k) HO2.out y).1
      have HB3 := Lib.hid (HB2.out.setCell (p := ⟨w.heap.size, k, none⟩) (Nat.le_refl _) (.string y))
      clear hb2
      go_wp2_with fail
      obtain ⟨wr3, HW3⟩ : ∃ u, Hid (wr2.setCell ⟨w.heap.size, k, none⟩ (.string y) = u) := ⟨_, Lib.hid rfl⟩
      rw [HW3.out] at HO3 HB3 ⊢
      clear z2 y2
      have hn2 := Lib.hid (pl.chg_one hinv.out hkl.out (x := y) (by rw [HX.out, HY.out]))
      rw [rounds_succ]
      go_wp2_with fail
      go_roundw
      case rel => exact ⟨k + 1, _, by omega, by go_num, hn2, HO3.out, HB3.out⟩
      case measure => simp [intOf]; omega
    · obtain rfl : k = n := by omega
      have he : Hid (l' = l.map pl.trimB) := Lib.hid (pl.chg_all (by rw [← HN.out]; exact hinv.out))
      go_wp2_with fail
      go_ret
      exact ⟨_, rfl, by rw [← he.out]; unfold OStrs; rw [hinv.out.1, ← HN.out]; exact hown, hbel⟩
end Go.Proofs.YtpfheanpbbfpdaaDoor
