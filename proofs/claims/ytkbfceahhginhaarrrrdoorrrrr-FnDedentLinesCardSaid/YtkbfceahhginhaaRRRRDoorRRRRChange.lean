/- Contracts: the changes of lines, and changeLines with each pair of them. -/
import Derived.Test.YtkbfceahhginhaaRRRRDoorRRRRPlainD
import Derived.Test.YtkbfceahhginhaaRRRRDoorRRRRLines
import Derived.Test.YtkbfceahhginhaaRRRRDoorRRRRTabs
import Derived.Test.YtkbfceahhginhaaRRRRDoorRRRRMark
import Derived.Laws.CopyOwn
import Derived.LoopN
namespace Go.Proofs.YtkbfceahhginhaaRRRRDoorRRRR
open Go.RowKit
set_option maxRecDepth 100000

theorem emptyBlank_any (s : ByteArray) (w : World) :
    Calls Tryd.prog 31 #[.string s] w fun e w' => e = .returned (.string (pl.ebS s)) ∧ Below w.heap.size w w' := by
  by_cases h : s.size ≤ pl.ld s
  · have hb := Lib.hid (pl.blank_yes h)
    have he := Lib.hid (pl.ebS_yes h)
    clear h
    go_enter Tryd.func31, Tryd.ntmps31
    go_wp2_with fail
    refine (isBlank_any s _).mono ?_
    rintro e w' ⟨rfl, rfl⟩
    rw [hb.out]
    go_wp2_with fail
    go_ret
    exact ⟨by rw [he.out]; rfl, Below.refl _ _⟩
  · have hb := Lib.hid (pl.blank_no h)
    have he := Lib.hid (pl.ebS_no h)
    clear h
    go_enter Tryd.func31, Tryd.ntmps31
    go_wp2_with fail
    refine (isBlank_any s _).mono ?_
    rintro e w' ⟨rfl, rfl⟩
    rw [hb.out]
    go_wp2_with fail
    go_ret
    exact ⟨by rw [he.out]; rfl, Below.refl _ _⟩

theorem takeOff_any (m : Nat) (s : ByteArray) (w : World) (hs : s.size ≤ 1048576) (hf : s.size = 0 ∨ m ≤ s.size) :
    Calls Tryd.prog 32 #[.int .i64 m, .string s] w fun e w' => e = .returned (.string (pl.tkS m s)) ∧ Below w.heap.size w w' := by
  by_cases h : s.size = 0
  · have h0 : s.toList.isEmpty = true := pl.empty_of h
    have he : Hid (pl.tkS m s = ⟨#[]⟩) := Lib.hid (pl.tkS_yes h)
    clear h hf
    go_enter Tryd.func32, Tryd.ntmps32
    go_wp2_with fail
    go_ret
    exact ⟨by rw [he.out]; rfl, Below.refl _ _⟩
  · have h0 : s.toList.isEmpty = false := pl.nonempty_of h
    have he : Hid (s.extract m s.size = pl.tkS m s) := Lib.hid (pl.ex_drop.trans (pl.tkS_no h).symm)
    have hf' : m ≤ s.size := by omega
    clear h hf
    go_enter Tryd.func32, Tryd.ntmps32
    go_wp2_with fail
    go_ret
    exact ⟨by rw [← he.out]; rfl, Below.refl _ _⟩

theorem putOn_any (m : Nat) (s : ByteArray) (w : World) (hs : s.size ≤ 1048576) (hm : m ≤ 100000) :
    Calls Tryd.prog 39 #[.int .i64 m, .string s] w fun e w' => e = .returned (.string (pl.ptS m s)) ∧ Below w.heap.size w w' := by
  by_cases h : s.size = 0
  · have h0 : s.toList.isEmpty = true := pl.empty_of h
    have he : Hid (pl.ptS m s = ⟨#[]⟩) := Lib.hid (pl.ptS_yes h)
    clear h
    go_enter Tryd.func39, Tryd.ntmps39
    go_wp2_with fail
    go_ret
    exact ⟨by rw [he.out]; rfl, Below.refl _ _⟩
  · have h0 : s.toList.isEmpty = false := pl.nonempty_of h
    have he := Lib.hid (pl.ptS_no (m := m) h)
    have hsz := pl.spB_size m
    clear h
    obtain ⟨t, HT⟩ : ∃ t, Hid (pl.spB m = t) := ⟨_, Lib.hid rfl⟩
    rw [HT.out] at hsz
    go_enter Tryd.func39, Tryd.ntmps39
    go_wp2_with fail
    refine (ispaces_at _ m (by first | rfl | go_num) _ hm).mono ?_
    rintro e w' ⟨rfl, hb⟩
    rw [HT.out]
    go_wp2_with fail
    go_ret
    exact ⟨by rw [he.out, HT.out]; rfl, hb⟩

theorem own_row {B G n : Nat} {w : World} {xs : List Value} (h : w.ownsRow B 9 1 (.slice (some ⟨G, 0, none⟩) n n) n xs) : ∃ cur : List Value, w.heap[G]? = some (.cells cur.toArray 9 (0, 0)) ∧ cur.length = n := by
  rcases h.2 with ⟨hv, _⟩ | ⟨g, cap, cur, hv, hB, hg, hle, hm, hs, htake⟩
  · cases hv
  · simp only [Value.slice.injEq, Option.some.injEq, Addr.mk.injEq] at hv
    obtain ⟨⟨rfl, _, _⟩, _, rfl⟩ := hv
    exact ⟨cur.toList, by rw [hg], by simpa using hs⟩
theorem own_back {B G n : Nat} {w : World} {l : List ByteArray} {cur : List Value} (hg : w.heap[G]? = some (.cells (splice cur 0 (l.map Value.string)).toArray 9 (0, 0))) (hc : cur.length = n) (hl : l.length = n) (hB : B ≤ G) (hn : n ≤ maxLen) :
    w.ownsRow B 9 1 (.slice (some ⟨G, 0, none⟩) n n) n (l.map Value.string) := by
  have e : splice cur 0 (l.map Value.string) = l.map Value.string := by
    unfold splice
    rw [List.take_zero, List.nil_append, List.drop_of_length_le (by simp; omega), List.append_nil]
  rw [e] at hg
  exact ⟨by simp [hl], .inr ⟨G, n, _, rfl, hB, hg, Nat.le_refl _, hn, by simp [hl], by simp [List.take_of_length_le, hl]⟩⟩
theorem own_below {B n : Nat} {w w' : World} {v : Value} {xs : List Value} (h : w.ownsRow B 9 1 v n xs) (hb : Below w.heap.size w w') : w'.ownsRow B 9 1 v n xs := by
  refine ⟨h.1, ?_⟩
  rcases h.2 with hx | ⟨g, cap, cur, hv, hB, hg, rest⟩
  · exact .inl hx
  · exact .inr ⟨g, cap, cur, hv, hB, by rw [hb.block g (Array.getElem?_eq_some_iff.1 hg).1]; exact hg, rest⟩
theorem RStrs.src {w wr : World} {a : Option Addr} {cap n : Nat} {l : List ByteArray} (h : RStrs w (.slice a n cap) l) (hb : Below w.heap.size w wr) (hpos : 0 < (l.map Value.string).length) :
    ∃ ad, a = some ad ∧ ∀ j v, (l.map Value.string)[j]? = some v → wr.cell? (ad.add j) = some v := by
  rcases h with ⟨hz, _⟩ | ⟨_, b1, o1, c1, hvv, hb1, hc1⟩
  · rw [hz] at hpos; simp at hpos
  · simp only [Value.slice.injEq] at hvv
    obtain ⟨rfl, _, rfl⟩ := hvv
    refine ⟨_, rfl, fun j v hj => ?_⟩
    have hadd : (⟨b1, o1, none⟩ : Addr).add j = ⟨b1, o1 + j, none⟩ := by unfold Addr.add; split <;> simp_all
    rw [hadd]
    obtain ⟨hl, rfl⟩ := List.getElem?_eq_some_iff.1 hj
    rw [List.length_map] at hl
    rw [hb.cell (p := ⟨b1, o1 + j, none⟩) hb1, hc1 j hl, List.getElem_map, nth_eq hl]

set_option maxHeartbeats 2000000 in
theorem changeT_any (l : List ByteArray) (v : Value) (m gc : Nat) (w : World) (hr : RStrs w v l) (hlen : l.length ≤ 20) (hsz : ∀ i, i < l.length → (nth l i).size ≤ 1048576) (hfit : ∀ i, i < l.length → (pl.ebS (nth l i)).size = 0 ∨ m ≤ (pl.ebS (nth l i)).size)
    (hgc : gc < w.heap.size) (h0 : w.cell? ⟨gc, 0, none⟩ = some (.func (.func 31) #[] #[])) (h1 : w.cell? ⟨gc, 1, none⟩ = some (.func (.func 32) #[.int .i64 m] #[])) :
    Calls Tryd.prog 30 #[v, .slice (some ⟨gc, 0, none⟩) 2 2] w fun e w' => ∃ v', e = .returned v' ∧ OStrs w.heap.size w' v' (pl.ded l m) ∧ Below w.heap.size w w' := by
  obtain ⟨i0, hi, hz0, hz1, hz2⟩ := info_parts infoS
  obtain ⟨n, hn⟩ : ∃ n, n = l.length := ⟨_, rfl⟩
  have HN := Lib.hid hn
  have HSZ := Lib.hid hsz
  have HF := Lib.hid hfit
  have hrr := Lib.hid hr
  have H0 := Lib.hid h0
  have H1 := Lib.hid h1
  obtain ⟨a0, cap0, rfl⟩ := hr.slice
  rw [← hn] at hlen hrr ⊢
  clear hn hr hsz h0 h1 hfit
  go_enter Tryd.func30, Tryd.ntmps30
  go_wp2_with (at_make; refine wpList_make_full _ rfl _ _ 23 rfl w.heap.size 9 i0 (.string ByteArray.empty) 1 Tryd.underlying23 hi hz0 hz1 _ _ _ _ n rfl rfl rfl rfl ?b1 ?b2 ?b3 ?_)
  case b1 => rw [hz2]; omega
  case b2 => unfold maxLen; omega
  case b3 => exact Nat.le_refl _
  intro w1 hown hgrow
  have hb0 : Below w.heap.size w w1 := (Below.refl _ _).grown hgrow (Nat.le_refl _) (fun g hg => by cases hg)
  obtain ⟨cur, hrow, hcur⟩ := own_row hown
  have HC := Lib.hid hcur
  have HR := Lib.hid hrow
  have HB0 := Lib.hid hb0
  clear hown hgrow hcur hrow hb0
  go_wp2_with (refine wpList_copy_splice rfl (.tmp 12) (.tmp 13) 23 23 rfl 9 Tryd.underlying23 (by kernel_rfl) _ _ _ _ _ _ rfl rfl w.heap.size 0 cur 9 HR.out (l.map Value.string) ?k1 ?k2 ?k3 ?k4 w.heap.size w HB0.out (Nat.le_refl _) ?_)
  case k1 => rw [List.length_map, ← HN.out]; simp
  case k2 =>
    intro hp
    have hq := hrr.out.src HB0.out (by rw [List.length_map]; simpa using hp)
    first | exact hq | exact ⟨rfl, hq⟩ | simpa using hq
  case k3 => rw [List.length_map, ← HN.out, HC.out]; omega
  case k4 => intro u hu; rw [List.mem_map] at hu; obtain ⟨s, _, rfl⟩ := hu; rfl
  intro w2 hg2 hb2
  have hown2 := own_back (B := w.heap.size) hg2.out HC.out HN.out.symm (Nat.le_refl _) (by unfold maxLen; omega)
  clear hg2 HR
  go_wp2_with fail
  go_loopw [17] (fun iv wr => ∃ (k : Nat) (l' : List ByteArray), k ≤ n ∧ iv = .int .i64 k ∧ Hid (pl.chg (fun s => pl.tkS m (pl.ebS s)) l l' k) ∧ wr.ownsRow w.heap.size 9 1 (.slice (some ⟨w.heap.size, 0, none⟩) n n) n (l'.map Value.string) ∧ Below w.heap.size w wr) (fun iv _ => n - (intOf iv).toNat)
  case atStart => exact ⟨0, l, Nat.zero_le _, rfl, Lib.hid (pl.chg_zero _ l), hown2, hb2⟩
  case round =>
    obtain ⟨k, l', hk, rfl, hinv, hown, hbel⟩ := hrel
    by_cases hlt : k < n
    · have hkl : Hid (k < l.length) := Lib.hid (by rw [← HN.out]; exact hlt)
      have hln : Hid (l'.length = n) := Lib.hid (hinv.out.1.trans HN.out.symm)
      obtain ⟨x, HX⟩ : ∃ x, Hid (nth l k = x) := ⟨_, Lib.hid rfl⟩
      have hx : wr.cell? ⟨w.heap.size, k, none⟩ = some (.string x) := by rw [own_cell hown hln.out hlt, pl.chg_at hinv.out hkl.out, HX.out]
      have hxm := HSZ.out k hkl.out
      rw [HX.out] at hxm
      have c0 := (hbel.cell (p := ⟨gc, 0, none⟩) hgc).trans H0.out
      have HOWN := Lib.hid hown
      have HBEL := Lib.hid hbel
      clear hown hbel
      go_wp2_with fail
      refine wp_loop_rounds 3 ?_
      rw [rounds_succ]
      go_wp2_with fail
      refine (emptyBlank_any x _).mono ?_
      rintro e wr2 ⟨rfl, hb2⟩
      clear hx c0
      have HO2 := Lib.hid (own_below HOWN.out hb2)
      have HB2 := Lib.hid (HBEL.out.trans (hb2.mono HBEL.out.size))
      obtain ⟨y, HY⟩ : ∃ y, Hid (pl.ebS x = y) := ⟨_, Lib.hid rfl⟩
      rw [HY.out]
      have hym : y.size ≤ x.size := by rw [← HY.out]; exact pl.ebS_size x
      have z2 := World.ownsRow.frozenAt HO2.out k
      have y2 := own_cell HO2.out hln.out hlt
      have HO3 := Lib.hid (own_store (j := k) HO2.out y).1
      have HB3 := Lib.hid (HB2.out.setCell (p := ⟨w.heap.size, k, none⟩) (Nat.le_refl _) (.string y))
      clear hb2
      go_wp2_with fail
      obtain ⟨wr3, HW3⟩ : ∃ u, Hid (wr2.setCell ⟨w.heap.size, k, none⟩ (.string y) = u) := ⟨_, Lib.hid rfl⟩
      rw [HW3.out] at HO3 HB3 ⊢
      clear z2 y2
      have c1 := (HB3.out.cell (p := ⟨gc, 1, none⟩) hgc).trans H1.out
      have hln3 : Hid ((l'.set k y).length = n) := Lib.hid (by rw [List.length_set]; exact hln.out)
      have y3 : wr3.cell? ⟨w.heap.size, k, none⟩ = some (.string y) := by rw [own_cell HO3.out hln3.out hlt, nth_set_same (by rw [hln.out]; exact hlt)]
      rw [rounds_succ]
      go_wp2_with fail
      refine (takeOff_any m y _ (by omega) (by rw [← HY.out, ← HX.out]; exact HF.out k hkl.out)).mono ?_
      rintro e wr4 ⟨rfl, hb4⟩
      clear y3 c1
      have HO4 := Lib.hid (own_below HO3.out hb4)
      have HB4 := Lib.hid (HB3.out.trans (hb4.mono HB3.out.size))
      obtain ⟨z, HZ⟩ : ∃ z, Hid (pl.tkS m y = z) := ⟨_, Lib.hid rfl⟩
      rw [HZ.out]
      have z4 := World.ownsRow.frozenAt HO4.out k
      have y4 := own_cell HO4.out hln3.out hlt
      have HO5 := Lib.hid (own_store (j := k) HO4.out z).1
      have HB5 := Lib.hid (HB4.out.setCell (p := ⟨w.heap.size, k, none⟩) (Nat.le_refl _) (.string z))
      clear hb4
      go_wp2_with fail
      obtain ⟨wr5, HW5⟩ : ∃ u, Hid (wr4.setCell ⟨w.heap.size, k, none⟩ (.string z) = u) := ⟨_, Lib.hid rfl⟩
      rw [HW5.out] at HO5 HB5 ⊢
      clear z4 y4
      have hn2 := Lib.hid (pl.chg_succ hinv.out hkl.out y (x := z) (by rw [HX.out, HY.out, HZ.out]))
      rw [rounds_succ]
      go_wp2_with fail
      go_roundw
      case rel => exact ⟨k + 1, _, by omega, by go_num, hn2, HO5.out, HB5.out⟩
      case measure => simp [intOf]; omega
    · obtain rfl : k = n := by omega
      have he : Hid (l' = pl.ded l m) := Lib.hid (pl.chg_all (by rw [← HN.out]; exact hinv.out))
      go_wp2_with fail
      go_ret
      exact ⟨_, rfl, by rw [← he.out]; unfold OStrs; rw [hinv.out.1, ← HN.out]; exact hown, hbel⟩

set_option maxHeartbeats 2000000 in
theorem changeP_any (l : List ByteArray) (v : Value) (m gc : Nat) (w : World) (hr : RStrs w v l) (hlen : l.length ≤ 20) (hsz : ∀ i, i < l.length → (nth l i).size ≤ 1048576) (hfit : m ≤ 100000)
    (hgc : gc < w.heap.size) (h0 : w.cell? ⟨gc, 0, none⟩ = some (.func (.func 31) #[] #[])) (h1 : w.cell? ⟨gc, 1, none⟩ = some (.func (.func 39) #[.int .i64 m] #[])) :
    Calls Tryd.prog 30 #[v, .slice (some ⟨gc, 0, none⟩) 2 2] w fun e w' => ∃ v', e = .returned v' ∧ OStrs w.heap.size w' v' (pl.ind l m) ∧ Below w.heap.size w w' := by
  obtain ⟨i0, hi, hz0, hz1, hz2⟩ := info_parts infoS
  obtain ⟨n, hn⟩ : ∃ n, n = l.length := ⟨_, rfl⟩
  have HN := Lib.hid hn
  have HSZ := Lib.hid hsz
  have HF := Lib.hid hfit
  have hrr := Lib.hid hr
  have H0 := Lib.hid h0
  have H1 := Lib.hid h1
  obtain ⟨a0, cap0, rfl⟩ := hr.slice
  rw [← hn] at hlen hrr ⊢
  clear hn hr hsz h0 h1 hfit
  go_enter Tryd.func30, Tryd.ntmps30
  go_wp2_with (at_make; refine wpList_make_full _ rfl _ _ 23 rfl w.heap.size 9 i0 (.string ByteArray.empty) 1 Tryd.underlying23 hi hz0 hz1 _ _ _ _ n rfl rfl rfl rfl ?b1 ?b2 ?b3 ?_)
  case b1 => rw [hz2]; omega
  case b2 => unfold maxLen; omega
  case b3 => exact Nat.le_refl _
  intro w1 hown hgrow
  have hb0 : Below w.heap.size w w1 := (Below.refl _ _).grown hgrow (Nat.le_refl _) (fun g hg => by cases hg)
  obtain ⟨cur, hrow, hcur⟩ := own_row hown
  have HC := Lib.hid hcur
  have HR := Lib.hid hrow
  have HB0 := Lib.hid hb0
  clear hown hgrow hcur hrow hb0
  go_wp2_with (refine wpList_copy_splice rfl (.tmp 12) (.tmp 13) 23 23 rfl 9 Tryd.underlying23 (by kernel_rfl) _ _ _ _ _ _ rfl rfl w.heap.size 0 cur 9 HR.out (l.map Value.string) ?k1 ?k2 ?k3 ?k4 w.heap.size w HB0.out (Nat.le_refl _) ?_)
  case k1 => rw [List.length_map, ← HN.out]; simp
  case k2 =>
    intro hp
    have hq := hrr.out.src HB0.out (by rw [List.length_map]; simpa using hp)
    first | exact hq | exact ⟨rfl, hq⟩ | simpa using hq
  case k3 => rw [List.length_map, ← HN.out, HC.out]; omega
  case k4 => intro u hu; rw [List.mem_map] at hu; obtain ⟨s, _, rfl⟩ := hu; rfl
  intro w2 hg2 hb2
  have hown2 := own_back (B := w.heap.size) hg2.out HC.out HN.out.symm (Nat.le_refl _) (by unfold maxLen; omega)
  clear hg2 HR
  go_wp2_with fail
  go_loopw [17] (fun iv wr => ∃ (k : Nat) (l' : List ByteArray), k ≤ n ∧ iv = .int .i64 k ∧ Hid (pl.chg (fun s => pl.ptS m (pl.ebS s)) l l' k) ∧ wr.ownsRow w.heap.size 9 1 (.slice (some ⟨w.heap.size, 0, none⟩) n n) n (l'.map Value.string) ∧ Below w.heap.size w wr) (fun iv _ => n - (intOf iv).toNat)
  case atStart => exact ⟨0, l, Nat.zero_le _, rfl, Lib.hid (pl.chg_zero _ l), hown2, hb2⟩
  case round =>
    obtain ⟨k, l', hk, rfl, hinv, hown, hbel⟩ := hrel
    by_cases hlt : k < n
    · have hkl : Hid (k < l.length) := Lib.hid (by rw [← HN.out]; exact hlt)
      have hln : Hid (l'.length = n) := Lib.hid (hinv.out.1.trans HN.out.symm)
      obtain ⟨x, HX⟩ : ∃ x, Hid (nth l k = x) := ⟨_, Lib.hid rfl⟩
      have hx : wr.cell? ⟨w.heap.size, k, none⟩ = some (.string x) := by rw [own_cell hown hln.out hlt, pl.chg_at hinv.out hkl.out, HX.out]
      have hxm := HSZ.out k hkl.out
      rw [HX.out] at hxm
      have c0 := (hbel.cell (p := ⟨gc, 0, none⟩) hgc).trans H0.out
      have HOWN := Lib.hid hown
      have HBEL := Lib.hid hbel
      clear hown hbel
      go_wp2_with fail
      refine wp_loop_rounds 3 ?_
      rw [rounds_succ]
      go_wp2_with fail
      refine (emptyBlank_any x _).mono ?_
      rintro e wr2 ⟨rfl, hb2⟩
      clear hx c0
      have HO2 := Lib.hid (own_below HOWN.out hb2)
      have HB2 := Lib.hid (HBEL.out.trans (hb2.mono HBEL.out.size))
      obtain ⟨y, HY⟩ : ∃ y, Hid (pl.ebS x = y) := ⟨_, Lib.hid rfl⟩
      rw [HY.out]
      have hym : y.size ≤ x.size := by rw [← HY.out]; exact pl.ebS_size x
      have z2 := World.ownsRow.frozenAt HO2.out k
      have y2 := own_cell HO2.out hln.out hlt
      have HO3 := Lib.hid (own_store (j := k) HO2.out y).1
      have HB3 := Lib.hid (HB2.out.setCell (p := ⟨w.heap.size, k, none⟩) (Nat.le_refl _) (.string y))
      clear hb2
      go_wp2_with fail
      obtain ⟨wr3, HW3⟩ : ∃ u, Hid (wr2.setCell ⟨w.heap.size, k, none⟩ (.string y) = u) := ⟨_, Lib.hid rfl⟩
      rw [HW3.out] at HO3 HB3 ⊢
      clear z2 y2
      have c1 := (HB3.out.cell (p := ⟨gc, 1, none⟩) hgc).trans H1.out
      have hln3 : Hid ((l'.set k y).length = n) := Lib.hid (by rw [List.length_set]; exact hln.out)
      have y3 : wr3.cell? ⟨w.heap.size, k, none⟩ = some (.string y) := by rw [own_cell HO3.out hln3.out hlt, nth_set_same (by rw [hln.out]; exact hlt)]
      rw [rounds_succ]
      go_wp2_with fail
      refine (putOn_any m y _ (by omega) HF.out).mono ?_
      rintro e wr4 ⟨rfl, hb4⟩
      clear y3 c1
      have HO4 := Lib.hid (own_below HO3.out hb4)
      have HB4 := Lib.hid (HB3.out.trans (hb4.mono HB3.out.size))
      obtain ⟨z, HZ⟩ : ∃ z, Hid (pl.ptS m y = z) := ⟨_, Lib.hid rfl⟩
      rw [HZ.out]
      have z4 := World.ownsRow.frozenAt HO4.out k
      have y4 := own_cell HO4.out hln3.out hlt
      have HO5 := Lib.hid (own_store (j := k) HO4.out z).1
      have HB5 := Lib.hid (HB4.out.setCell (p := ⟨w.heap.size, k, none⟩) (Nat.le_refl _) (.string z))
      clear hb4
      go_wp2_with fail
      obtain ⟨wr5, HW5⟩ : ∃ u, Hid (wr4.setCell ⟨w.heap.size, k, none⟩ (.string z) = u) := ⟨_, Lib.hid rfl⟩
      rw [HW5.out] at HO5 HB5 ⊢
      clear z4 y4
      have hn2 := Lib.hid (pl.chg_succ hinv.out hkl.out y (x := z) (by rw [HX.out, HY.out, HZ.out]))
      rw [rounds_succ]
      go_wp2_with fail
      go_roundw
      case rel => exact ⟨k + 1, _, by omega, by go_num, hn2, HO5.out, HB5.out⟩
      case measure => simp [intOf]; omega
    · obtain rfl : k = n := by omega
      have he : Hid (l' = pl.ind l m) := Lib.hid (pl.chg_all (by rw [← HN.out]; exact hinv.out))
      go_wp2_with fail
      go_ret
      exact ⟨_, rfl, by rw [← he.out]; unfold OStrs; rw [hinv.out.1, ← HN.out]; exact hown, hbel⟩

end Go.Proofs.YtkbfceahhginhaaRRRRDoorRRRR
