/- Contracts: IndentLines of both sides. -/
import Derived.Test.YtkbfceahhginhaaRRRRDoorRRRRDedent
import Derived.Deep.RegionHeldLaw
import Derived.Deep.AppendLies
namespace Go.Proofs.YtkbfceahhginhaaRRRRDoorRRRR
open Go.RowKit
set_option maxRecDepth 100000

namespace pl
def indB (l : List ByteArray) (a : Int) : Bool := validLs l && (decide (0 ≤ a ∧ a ≤ 10) && validLs (ind l a.toNat))
def indR (l : List ByteArray) (a : Int) : List ByteArray := if indB l a = true then ind l a.toNat else []
theorem indB_bad {l : List ByteArray} {a : Int} (h : validLs l = false) : indB l a = false := by simp [indB, h]
theorem indB_out {l : List ByteArray} {a : Int} (h : a < 0 ∨ 10 < a) : indB l a = false := by
  unfold indB; rw [decide_eq_false (p := 0 ≤ a ∧ a ≤ 10) (by omega)]; simp
theorem indB_ok {l : List ByteArray} {m : Nat} (hv : validLs l = true) (hm : m ≤ 10) : indB l (m : Int) = validLs (ind l m) := by
  unfold indB; rw [hv, decide_eq_true (p := 0 ≤ (m : Int) ∧ (m : Int) ≤ 10) (by omega)]; simp
theorem indR_no {l : List ByteArray} {a : Int} (h : indB l a = false) : indR l a = [] := by simp [indR, h]
theorem indR_yes {l : List ByteArray} {m : Nat} (h : indB l (m : Int) = true) : indR l (m : Int) = ind l m := by simp [indR, h]
theorem ind_size {l : List ByteArray} {m : Nat} (h : validLs l = true) (hm : m ≤ 10) : ∀ i, i < (ind l m).length → (nth (ind l m) i).size ≤ 130 := by
  intro i hi
  rw [ind_len] at hi
  rw [nth_ind hi]
  have h1 := ptS_size m (ebS (nth l i))
  have h2 := ebS_size (nth l i)
  have h3 := validLs_size h i hi
  omega
end pl

theorem isIndent_any (n : Int) (w : World) :
    Calls Tryd.prog 38 #[.int .i64 n] w fun e w' => e = .returned (.bool (pl.inR n 0 10)) ∧ w = w' := by
  by_cases h1 : 0 ≤ n
  · go_enter Tryd.func38, Tryd.ntmps38
    go_wp2
    go_ret
    exact ⟨by simp [pl.inR, h1], rfl⟩
  · have h1' : n < 0 := by omega
    go_enter Tryd.func38, Tryd.ntmps38
    go_wp2
    go_ret
    exact ⟨ret_b (pl.inR_false (.inl h1')).symm, rfl⟩

set_option maxHeartbeats 1000000 in
theorem iIndent_ok (l : List ByteArray) (m : Nat) (v : Value) (w : World) (hr : RStrs w v l) (hlen : l.length ≤ 1048576) (hsz : ∀ i, i < l.length → (nth l i).size ≤ 1048576) (hv : pl.validLs l = true) (hm : m ≤ 10) :
    Calls Tryd.prog 13 #[v, .int .i64 m] w fun e w' => ∃ v', e = .returned (.tuple #[v', .bool (pl.indB l m)]) ∧ OStrs w.heap.size w' v' (pl.indR l m) ∧ Below w.heap.size w w' := by
  have hlen2 : Hid (l.length ≤ maxLen) := Lib.hid (by unfold maxLen; omega)
  have hsz2 : Hid (∀ i, i < l.length → (nth l i).size ≤ maxLen) := Lib.hid (fun i hi => by have := hsz i hi; unfold maxLen; omega)
  have hrr := Lib.hid hr
  have hsz1 := Lib.hid hsz
  have h20 := Lib.hid (pl.validLs_len hv)
  have hok := Lib.hid (pl.indB_ok hv hm)
  have hiz := Lib.hid (pl.ind_size hv hm)
  clear hr hlen hsz
  go_enter Tryd.func13, Tryd.ntmps13
  go_wp2_with fail
  refine (ivalidLines_any l _ _ hrr.out hlen2.out hsz2.out).mono ?_
  rintro e w1 ⟨rfl, hb1⟩
  rw [hv]
  clear hv
  have HB1 := Lib.hid hb1
  clear hb1
  have hin : pl.inR (m : Int) 0 10 = true := pl.inR_true (by omega) (by omega)
  go_wp2_with fail
  refine (isIndent_any _ _).mono ?_
  rintro e w' ⟨rfl, rfl⟩
  rw [hin]
  clear hin
  go_wp2_with fail
  have HB3 := Lib.hid (HB1.out.alloc HB1.out.size (.cells #[.func (.func 31) #[] #[], .func (.func 39) #[.int .i64 m] #[]] 46))
  refine (changeP_any l _ m w1.heap.size _ (hrr.out.below (Nat.le_refl _) HB3.out) h20.out hsz1.out (by omega) (lit2_lt _ _) (lit2_0 _ _ _ _) (lit2_1 _ _ _ _)).mono ?_
  rintro e w3 ⟨v', rfl, ho, hb3⟩
  have HB4 := Lib.hid (HB3.out.trans (hb3.mono HB3.out.size))
  have HO := Lib.hid ho
  clear hb3 ho
  go_wp2_with fail
  refine (ivalidLines_any (pl.ind l m) v' _ HO.out.reads (by rw [pl.ind_len]; exact hlen2.out) (fun i hi => by have := hiz.out i hi; unfold maxLen; omega)).mono ?_
  rintro e w4 ⟨rfl, hb4⟩
  have HB5 := Lib.hid (HB4.out.trans (hb4.mono HB4.out.size))
  have HO4 := Lib.hid (HO.out.below (Nat.le_refl _) hb4)
  clear hb4
  by_cases hi : pl.validLs (pl.ind l m) = true
  · have he := Lib.hid (hok.out.trans hi)
    rw [hi]
    clear hi
    go_wp2_with fail
    go_ret2
    exact ⟨_, by rw [he.out]; rfl, by rw [pl.indR_yes he.out]; exact HO4.out.mono HB3.out.size, HB5.out⟩
  · have hi' : pl.validLs (pl.ind l m) = false := by simpa using hi
    have he := Lib.hid (hok.out.trans hi')
    rw [hi']
    clear hi hi'
    go_wp2_with fail
    go_ret2
    exact ⟨_, by rw [he.out]; rfl, by rw [pl.indR_no he.out]; exact OStrs.nil _ _, HB5.out⟩

theorem ind_cases (a : Int) : (∃ m : Nat, a = m ∧ m ≤ 10) ∨ a < 0 ∨ (0 ≤ a ∧ 10 < a) := by
  by_cases h1 : a < 0
  · exact .inr (.inl h1)
  · by_cases h2 : 10 < a
    · exact .inr (.inr ⟨by omega, h2⟩)
    · exact .inl ⟨a.toNat, by omega, by omega⟩

theorem iIndent_any (l : List ByteArray) (a : Int) (v : Value) (w : World) (hr : RStrs w v l) (hlen : l.length ≤ 1048576) (hsz : ∀ i, i < l.length → (nth l i).size ≤ 1048576) :
    Calls Tryd.prog 13 #[v, .int .i64 a] w fun e w' => ∃ v', e = .returned (.tuple #[v', .bool (pl.indB l a)]) ∧ OStrs w.heap.size w' v' (pl.indR l a) ∧ Below w.heap.size w w' := by
  by_cases hv : pl.validLs l = true
  · rcases ind_cases a with ⟨m, rfl, hm⟩ | h | ⟨h0, h⟩
    · exact iIndent_ok l m v w hr hlen hsz hv hm
    · have he := Lib.hid (pl.indB_out (l := l) (.inl h))
      have hlen2 : Hid (l.length ≤ maxLen) := Lib.hid (by unfold maxLen; omega)
      have hsz2 : Hid (∀ i, i < l.length → (nth l i).size ≤ maxLen) := Lib.hid (fun i hi => by have := hsz i hi; unfold maxLen; omega)
      have hrr := Lib.hid hr
      clear hr hlen hsz
      go_enter Tryd.func13, Tryd.ntmps13
      go_wp2_with fail
      refine (ivalidLines_any l _ _ hrr.out hlen2.out hsz2.out).mono ?_
      rintro e w1 ⟨rfl, hb1⟩
      rw [hv]
      have hin := pl.inR_false (n := a) (lo := 0) (hi := 10) (.inl h)
      go_wp2_with fail
      refine (isIndent_any _ _).mono ?_
      rintro e w' ⟨rfl, rfl⟩
      rw [hin]
      go_wp2_with fail
      go_ret2
      exact ⟨_, by rw [he.out]; rfl, by rw [pl.indR_no he.out]; exact OStrs.nil _ _, hb1⟩
    · have he := Lib.hid (pl.indB_out (l := l) (.inr h))
      have hlen2 : Hid (l.length ≤ maxLen) := Lib.hid (by unfold maxLen; omega)
      have hsz2 : Hid (∀ i, i < l.length → (nth l i).size ≤ maxLen) := Lib.hid (fun i hi => by have := hsz i hi; unfold maxLen; omega)
      have hrr := Lib.hid hr
      clear hr hlen hsz
      go_enter Tryd.func13, Tryd.ntmps13
      go_wp2_with fail
      refine (ivalidLines_any l _ _ hrr.out hlen2.out hsz2.out).mono ?_
      rintro e w1 ⟨rfl, hb1⟩
      rw [hv]
      have hin := pl.inR_false (n := a) (lo := 0) (hi := 10) (.inr h)
      go_wp2_with fail
      refine (isIndent_any _ _).mono ?_
      rintro e w' ⟨rfl, rfl⟩
      rw [hin]
      go_wp2_with fail
      go_ret2
      exact ⟨_, by rw [he.out]; rfl, by rw [pl.indR_no he.out]; exact OStrs.nil _ _, hb1⟩
  · have hv' : pl.validLs l = false := by simpa using hv
    have he := Lib.hid (pl.indB_bad (a := a) hv')
    have hlen2 : Hid (l.length ≤ maxLen) := Lib.hid (by unfold maxLen; omega)
    have hsz2 : Hid (∀ i, i < l.length → (nth l i).size ≤ maxLen) := Lib.hid (fun i hi => by have := hsz i hi; unfold maxLen; omega)
    have hrr := Lib.hid hr
    clear hr hlen hsz hv
    go_enter Tryd.func13, Tryd.ntmps13
    go_wp2_with fail
    refine (ivalidLines_any l _ _ hrr.out hlen2.out hsz2.out).mono ?_
    rintro e w1 ⟨rfl, hb1⟩
    rw [hv']
    go_wp2_with fail
    go_ret2
    exact ⟨_, by rw [he.out]; rfl, by rw [pl.indR_no he.out]; exact OStrs.nil _ _, hb1⟩

set_option maxHeartbeats 2000000 in
theorem sIndent_ok (l : List ByteArray) (m : Nat) (v : Value) (w : World) (hr : RStrs w v l) (hlen : l.length ≤ 1048576) (hsz : ∀ i, i < l.length → (nth l i).size ≤ 1048576) (hv : pl.validLs l = true) (hm : m ≤ 10) :
    Calls Tryd.prog 16 #[v, .int .i64 m] w fun e w' => ∃ v', e = .returned (.tuple #[v', .bool (pl.indB l m)]) ∧ OStrs w.heap.size w' v' (pl.indR l m) ∧ Below w.heap.size w w' := by
  have hlen2 : Hid (l.length ≤ maxLen) := Lib.hid (by unfold maxLen; omega)
  have hsz2 : Hid (∀ i, i < l.length → (nth l i).size ≤ maxLen) := Lib.hid (fun i hi => by have := hsz i hi; unfold maxLen; omega)
  have hok := Lib.hid (pl.indB_ok hv hm)
  have hiz := Lib.hid (pl.ind_size hv hm)
  have hs120 := Lib.hid (pl.validLs_size hv)
  have h20 := pl.validLs_len hv
  obtain ⟨i0, hi, hz0, hz1, hz2⟩ := info_parts infoS
  obtain ⟨n, hn⟩ : ∃ n, n = l.length := ⟨_, rfl⟩
  have HN := Lib.hid hn
  have hrr := Lib.hid hr
  obtain ⟨a0, cap0, rfl⟩ := hr.slice
  rw [← hn] at hrr h20 ⊢
  clear hn hr hlen hsz
  have hin : pl.inR (m : Int) 0 10 = true := pl.inR_true (by omega) (by omega)
  go_enter Tryd.func16, Tryd.ntmps16
  go_wp2_with fail
  refine (svalidLines_any l _ _ hrr.out hlen2.out hsz2.out).mono ?_
  rintro e w' ⟨rfl, rfl⟩
  rw [hv]
  clear hv
  go_wp2_with fail
  refine (inRange_any _ _ _ _).mono ?_
  rintro e w' ⟨rfl, rfl⟩
  rw [hin]
  clear hin
  go_wp2_with fail
  go_loopw [6, 7] (fun ov iv wr => ∃ (k : Nat), k ≤ n ∧ iv = .int .i64 k ∧ OStrs w.heap.size wr ov (pl.gTo (fun s => pl.ptS m (pl.ebS s)) l k) ∧ Below w.heap.size w wr) (fun _ iv _ => n - (intOf iv).toNat)
  case atStart => exact ⟨0, Nat.zero_le _, rfl, World.ownsRow_made _ _ _ (Nat.le_refl _) (by unfold maxLen; omega) rfl, (Below.refl _ _).alloc (Nat.le_refl _) _⟩
  case round =>
    obtain ⟨k, hk, rfl, hown, hbel⟩ := hrel
    by_cases hlt : k < n
    · have hkl : Hid (k < l.length) := Lib.hid (by rw [← HN.out]; exact hlt)
      obtain ⟨b1, o1, rfl, hx⟩ := hrr.out.at HN.out hbel hlt
      have hxm := hs120.out k hkl.out
      obtain ⟨x, HX⟩ : ∃ x, Hid (nth l k = x) := ⟨_, Lib.hid rfl⟩
      rw [HX.out] at hx hxm
      obtain ⟨L, HL⟩ : ∃ L, Hid (pl.ld x = L) := ⟨_, Lib.hid rfl⟩
      have hLx := pl.ld_le x
      rw [HL.out] at hLx
      have hdl : Hid ((pl.gTo (fun s => pl.ptS m (pl.ebS s)) l k).length = k) := Lib.hid (pl.gTo_len (by have := hkl.out; omega))
      have HBEL := Lib.hid hbel
      by_cases hb : x.size ≤ L
      · have heq : (L : Int) = (x.size : Int) := by omega
        have hst : Hid (pl.gTo (fun s => pl.ptS m (pl.ebS s)) l k ++ [⟨#[]⟩] = pl.gTo (fun s => pl.ptS m (pl.ebS s)) l (k + 1)) := Lib.hid (pl.gTo_succ hkl.out (by rw [HX.out]; exact pl.ind_blank (by rw [HL.out]; exact hb)))
        go_wp2_with fail
        go_quiet ((go_at_call 35; exact lead_q x L HL.out (by unfold maxLen; omega) _ _))
        have hownD : OStrs w.heap.size (wr.drewN nq) u6 (pl.gTo (fun s => pl.ptS m (pl.ebS s)) l k) := hown.below (Nat.le_refl _) below_drewN
        have hbelD : Below w.heap.size w (wr.drewN nq) := HBEL.out.trans below_drewN
        go_wp2_with (at_builtin; refine wpList_append_own _ rfl _ _ 23 rfl w.heap.size 9 i0 (.string ByteArray.empty) 1 16 Tryd.underlying23 hi hz0 hz1 hz2 rfl (by decide) _ _ _ rfl (World.ownsRow.alloc hownD _) ⟨_, 0, none⟩ 1 1 [.string ⟨#[]⟩] rfl rfl ?cA1 ?cA2 ?cA3 ?cA4 ?cA5 ?_)
        case cA1 => exact cell_one_new _ _ _
        case cA2 => intro u hu; simp at hu; subst hu; rfl
        case cA3 => rw [hdl.out]; unfold maxLen; omega
        case cA4 => rw [hdl.out]; omega
        case cA5 => have := hbelD.size; simp at this ⊢; omega
        intro v' w1 hown' hgrow _
        have hb1 : Below w.heap.size w w1 := (hbelD.alloc hbelD.size _).grown hgrow (by have := hbelD.size; simp at this ⊢; omega) (fun g hg => (World.ownsRow.lt hownD g hg).1)
        have hown1 := OStrs.push1 hown'
        rw [hst.out] at hown1
        clear hown' hgrow hownD hbelD
        go_wp2
        go_roundw
        case rel => exact ⟨k + 1, by omega, by go_num, hown1, hb1⟩
        case measure => simp [intOf]; omega
      · have hlt2 : ¬ (L : Int) = (x.size : Int) := by omega
        have hst : Hid (pl.gTo (fun s => pl.ptS m (pl.ebS s)) l k ++ [pl.spB m ++ x] = pl.gTo (fun s => pl.ptS m (pl.ebS s)) l (k + 1)) := Lib.hid (pl.gTo_succ hkl.out (by rw [HX.out]; exact pl.ind_full (by rw [HL.out]; exact hb)))
        have htz := pl.spB_size m
        obtain ⟨t, HT⟩ : ∃ t, Hid (pl.spB m = t) := ⟨_, Lib.hid rfl⟩
        rw [HT.out] at hst htz
        go_wp2_with fail
        go_quiet ((go_at_call 35; exact lead_q x L HL.out (by unfold maxLen; omega) _ _))
        obtain ⟨wd, HW⟩ : ∃ u, Hid (wr.drewN nq = u) := ⟨_, Lib.hid rfl⟩
        have hownD : OStrs w.heap.size wd u6 (pl.gTo (fun s => pl.ptS m (pl.ebS s)) l k) := by rw [← HW.out]; exact hown.below (Nat.le_refl _) below_drewN
        have hbelD : Below w.heap.size w wd := by rw [← HW.out]; exact HBEL.out.trans below_drewN
        have hx2 : wd.cell? ⟨b1, o1 + k, none⟩ = some (.string x) := by rw [← HW.out]; exact hx
        rw [HW.out]
        clear hx hown hbel
        go_wp2_with fail
        have hb10 : b1 < w.heap.size := by
          obtain ⟨b2, o2, he2, hx0⟩ := hrr.out.at HN.out (Below.refl _ _) hlt
          cases he2
          exact World.block_lt_of_cell? w _ hx0
        have hne : some b1 ≠ u6.ownBlock := fun e => by
          have := (World.ownsRow.lt hownD b1 e.symm).1
          omega
        have hb1w : b1 < wd.heap.size := World.block_lt_of_cell? wd _ hx2
        go_region_held_law (fun w' => w'.cell? ⟨b1, o1 + k, none⟩ = some (.string x) ∧ b1 < w'.heap.size)
          (first
            | exact ⟨by simpa using hx2, by simpa using hb1w⟩
            | exact ⟨(((Below.refl wd.heap.size wd).drew.alloc (Nat.le_refl _) _).cell (p := ⟨b1, o1 + k, none⟩) hb1w).trans hx2, by simp; omega⟩
            | exact ⟨(hgrow.cell_far ⟨b1, o1 + k, none⟩ (by simp; omega) hne).trans ((((Below.refl wd.heap.size wd).drew.alloc (Nat.le_refl _) _).cell (p := ⟨b1, o1 + k, none⟩) hb1w).trans hx2), Nat.lt_of_lt_of_le hb1w (Nat.le_trans (by simp) hgrow.size)⟩)
          (first
            | (go_at_call 44; refine (sspaces_at _ m (by first | rfl | go_num) _ (by omega)).mono ?_; rintro e w2 ⟨rfl, rfl⟩; rw [HT.out])
            | (refine step_append_lies _ (by rfl) _ _ _ (by rfl) w.heap.size 9 i0 (.string ByteArray.empty) 1 16 Tryd.underlying23 hi hz0 hz1 hz2 (by rfl) (by decide) _ _ _ (by rfl) (World.ownsRow.alloc (hownD.below (Nat.le_refl _) (Below.refl _ _).drew) _) ⟨_, 0, none⟩ 1 1 [.string (t ++ x)] (by rfl) (by rfl) (cell_one_new _ _ _) (fun u hu => by simp at hu; subst hu; rfl) (by decide) (by rw [hdl.out]; unfold maxLen; omega) (by rw [hdl.out]; omega) (by have := hbelD.size; simp at this ⊢; omega) _ rfl ?_; intro g cap w1 hown' hgrow hat hltg))
        have hbd : Below w.heap.size w w1 := ((hbelD.drew).alloc (by have := hbelD.size; simpa using this) _).grown hgrow (by have := hbelD.size; simp; omega) (fun g hg => (World.ownsRow.lt hownD g hg).1)
        have hown1 := OStrs.push1 hown'
        rw [hst.out] at hown1
        clear hown' hgrow hownD hbelD hat hltg hx2
        go_wp2
        go_roundw
        case rel => exact ⟨k + 1, by omega, by go_num, hown1, hbd⟩
        case measure => simp [intOf]; omega
    · obtain rfl : k = n := by omega
      have hall : Hid (pl.gTo (fun s => pl.ptS m (pl.ebS s)) l k = pl.ind l m) := Lib.hid (by rw [HN.out]; exact pl.gTo_all _ l)
      rw [hall.out] at hown
      have HO := Lib.hid hown
      have HBEL := Lib.hid hbel
      clear hown hbel
      go_wp2_with fail
      refine (svalidLines_any (pl.ind l m) _ _ HO.out.reads (by rw [pl.ind_len]; exact hlen2.out) (fun i hi => by have := hiz.out i hi; unfold maxLen; omega)).mono ?_
      rintro e w4 ⟨rfl, rfl⟩
      by_cases hi2 : pl.validLs (pl.ind l m) = true
      · have he := Lib.hid (hok.out.trans hi2)
        rw [hi2]
        clear hi2
        go_wp2_with fail
        go_ret2
        exact ⟨_, by rw [he.out]; rfl, by rw [pl.indR_yes he.out]; exact HO.out, HBEL.out⟩
      · have hi' : pl.validLs (pl.ind l m) = false := by simpa using hi2
        have he := Lib.hid (hok.out.trans hi')
        rw [hi']
        clear hi2 hi'
        go_wp2_with fail
        go_ret2
        exact ⟨_, by rw [he.out]; rfl, by rw [pl.indR_no he.out]; exact OStrs.nil _ _, HBEL.out⟩

theorem sIndent_any (l : List ByteArray) (a : Int) (v : Value) (w : World) (hr : RStrs w v l) (hlen : l.length ≤ 1048576) (hsz : ∀ i, i < l.length → (nth l i).size ≤ 1048576) :
    Calls Tryd.prog 16 #[v, .int .i64 a] w fun e w' => ∃ v', e = .returned (.tuple #[v', .bool (pl.indB l a)]) ∧ OStrs w.heap.size w' v' (pl.indR l a) ∧ Below w.heap.size w w' := by
  have hlen2 : Hid (l.length ≤ maxLen) := Lib.hid (by unfold maxLen; omega)
  have hsz2 : Hid (∀ i, i < l.length → (nth l i).size ≤ maxLen) := Lib.hid (fun i hi => by have := hsz i hi; unfold maxLen; omega)
  by_cases hv : pl.validLs l = true
  · rcases ind_cases a with ⟨m, rfl, hm⟩ | h | ⟨h0, h⟩
    · exact sIndent_ok l m v w hr hlen hsz hv hm
    · have he := Lib.hid (pl.indB_out (l := l) (.inl h))
      have hin := pl.inR_false (n := a) (lo := 0) (hi := 10) (.inl h)
      have hrr := Lib.hid hr
      clear hr hlen hsz
      go_enter Tryd.func16, Tryd.ntmps16
      go_wp2_with fail
      refine (svalidLines_any l _ _ hrr.out hlen2.out hsz2.out).mono ?_
      rintro e w1 ⟨rfl, rfl⟩
      rw [hv]
      go_wp2_with fail
      refine (inRange_any _ _ _ _).mono ?_
      rintro e w' ⟨rfl, rfl⟩
      rw [hin]
      go_wp2_with fail
      go_ret2
      exact ⟨_, by rw [he.out]; rfl, by rw [pl.indR_no he.out]; exact OStrs.nil _ _, Below.refl _ _⟩
    · have he := Lib.hid (pl.indB_out (l := l) (.inr h))
      have hin := pl.inR_false (n := a) (lo := 0) (hi := 10) (.inr h)
      have hrr := Lib.hid hr
      clear hr hlen hsz
      go_enter Tryd.func16, Tryd.ntmps16
      go_wp2_with fail
      refine (svalidLines_any l _ _ hrr.out hlen2.out hsz2.out).mono ?_
      rintro e w1 ⟨rfl, rfl⟩
      rw [hv]
      go_wp2_with fail
      refine (inRange_any _ _ _ _).mono ?_
      rintro e w' ⟨rfl, rfl⟩
      rw [hin]
      go_wp2_with fail
      go_ret2
      exact ⟨_, by rw [he.out]; rfl, by rw [pl.indR_no he.out]; exact OStrs.nil _ _, Below.refl _ _⟩
  · have hv' : pl.validLs l = false := by simpa using hv
    have he := Lib.hid (pl.indB_bad (a := a) hv')
    have hrr := Lib.hid hr
    clear hr hlen hsz hv
    go_enter Tryd.func16, Tryd.ntmps16
    go_wp2_with fail
    refine (svalidLines_any l _ _ hrr.out hlen2.out hsz2.out).mono ?_
    rintro e w1 ⟨rfl, rfl⟩
    rw [hv']
    go_wp2_with fail
    go_ret2
    exact ⟨_, by rw [he.out]; rfl, by rw [pl.indR_no he.out]; exact OStrs.nil _ _, Below.refl _ _⟩
end Go.Proofs.YtkbfceahhginhaaRRRRDoorRRRR
