/- Contracts: DedentLines of both sides, IndentLines of the program. -/
import Derived.Test.YtkbfceahhginhaaRRRRDoorRRRRChange
import Derived.Test.YtkbfceahhginhaaRRRRDoorRRRRWords
import Derived.BigQuiet
namespace Go.Proofs.YtkbfceahhginhaaRRRRDoorRRRR
open Go.RowKit
set_option maxRecDepth 100000

theorem lit2_0 (w : World) (a b : Value) (t : TypeId) : (w.alloc (.cells #[a, b] t)).cell? ⟨w.heap.size, 0, none⟩ = some a := by
  simp only [World.cell?, heap_alloc_new]; rfl
theorem lit2_1 (w : World) (a b : Value) (t : TypeId) : (w.alloc (.cells #[a, b] t)).cell? ⟨w.heap.size, 1, none⟩ = some b := by
  simp only [World.cell?, heap_alloc_new]; rfl
theorem lit2_lt (w : World) (o : Obj) : w.heap.size < (w.alloc o).heap.size := by simp

namespace pl
theorem marginB_at {l : List ByteArray} (h : validLs l = true) : marginB l = (((marginL l).toNat : Nat) : Int) := by rw [marginB_ok h, margin_nat]
theorem margin_bd {l : List ByteArray} (h : validLs l = true) : (marginL l).toNat ≤ 120 := by
  have hb := (mTo_bd (ls := l) (fun i hi => by have := validLs_size h i hi; omega) l.length (Nat.le_refl _))
  by_cases hx : ∃ k, k < l.length ∧ ld (nth l k) < (nth l k).size
  · obtain ⟨k, hk, hb⟩ := hx
    have := margin_le hk hb
    have := validLs_size h k hk
    omega
  · have h0 : ∀ j, j ≤ l.length → mTo l j = -1 := by
      intro j
      induction j with
      | zero => intro _; rfl
      | succ j ih =>
        intro hj
        rw [mTo_succ (by omega), ih (by omega), stepM_no]
        have : ¬ ld (nth l j) < (nth l j).size := fun e => hx ⟨j, by omega, e⟩
        left; omega
    unfold marginL
    rw [h0 _ (Nat.le_refl _)]; decide
end pl

set_option maxHeartbeats 1000000 in
theorem iDedent_any (l : List ByteArray) (v : Value) (w : World) (hr : RStrs w v l) (hlen : l.length ≤ 1048576) (hsz : ∀ i, i < l.length → (nth l i).size ≤ 1048576) :
    Calls Tryd.prog 9 #[v] w fun e w' => ∃ v', e = .returned v' ∧ OStrs w.heap.size w' v' (pl.dedR l) ∧ Below w.heap.size w w' := by
  have hlen2 : Hid (l.length ≤ maxLen) := Lib.hid (by unfold maxLen; omega)
  have hsz2 : Hid (∀ i, i < l.length → (nth l i).size ≤ maxLen) := Lib.hid (fun i hi => by have := hsz i hi; unfold maxLen; omega)
  have hrr := Lib.hid hr
  have hll := Lib.hid hlen
  have hsz1 := Lib.hid hsz
  clear hr hlen hsz
  by_cases hv : pl.validLs l = true
  · have he := Lib.hid (pl.dedR_ok hv)
    have hmm := Lib.hid (pl.marginB_at hv)
    have hmb := Lib.hid (pl.margin_bd hv)
    have hfit : Hid (∀ i, i < l.length → (pl.ebS (nth l i)).size = 0 ∨ (pl.marginL l).toNat ≤ (pl.ebS (nth l i)).size) := Lib.hid (fun i hi => pl.margin_fit hi)
    have h20 := Lib.hid (pl.validLs_len hv)
    obtain ⟨m, HM⟩ : ∃ m, Hid ((pl.marginL l).toNat = m) := ⟨_, Lib.hid rfl⟩
    rw [HM.out] at he hmm hmb hfit
    go_enter Tryd.func9, Tryd.ntmps9
    go_wp2_with fail
    refine (ivalidLines_any l _ _ hrr.out hlen2.out hsz2.out).mono ?_
    rintro e w1 ⟨rfl, hb1⟩
    rw [hv]
    clear hv
    have HB1 := Lib.hid hb1
    clear hb1
    go_wp2_with fail
    refine (iMarginOf_any l _ _ (hrr.out.below (Nat.le_refl _) HB1.out) hll.out hsz1.out).mono ?_
    rintro e w2 ⟨rfl, hb2⟩
    rw [hmm.out]
    have HB2 := Lib.hid (HB1.out.trans (hb2.mono HB1.out.size))
    clear hb2
    go_wp2_with fail
    have HB3 := Lib.hid (HB2.out.alloc HB2.out.size (.cells #[.func (.func 31) #[] #[], .func (.func 32) #[.int .i64 m] #[]] 46))
    refine (changeT_any l _ m w2.heap.size _ (hrr.out.below (Nat.le_refl _) HB3.out) h20.out hsz1.out hfit.out (lit2_lt _ _) (lit2_0 _ _ _ _) (lit2_1 _ _ _ _)).mono ?_
    rintro e w3 ⟨v', rfl, ho, hb3⟩
    have HB4 := Lib.hid (HB3.out.trans (hb3.mono HB3.out.size))
    have HO := Lib.hid ho
    clear hb3 ho
    go_wp2_with fail
    go_ret
    exact ⟨_, rfl, by rw [he.out]; exact HO.out.mono HB3.out.size, HB4.out⟩
  · have hv' : pl.validLs l = false := by simpa using hv
    have he := Lib.hid (pl.dedR_no hv')
    clear hv
    go_enter Tryd.func9, Tryd.ntmps9
    go_wp2_with fail
    refine (ivalidLines_any l _ _ hrr.out hlen2.out hsz2.out).mono ?_
    rintro e w1 ⟨rfl, hb1⟩
    rw [hv']
    go_wp2_with fail
    go_ret
    exact ⟨_, rfl, by rw [he.out]; exact OStrs.nil _ _, hb1⟩

namespace pl
def gTo (g : ByteArray → ByteArray) (l : List ByteArray) (k : Nat) : List ByteArray := (l.take k).map g
theorem gTo_zero (g : ByteArray → ByteArray) (l : List ByteArray) : gTo g l 0 = [] := rfl
theorem gTo_succ {g : ByteArray → ByteArray} {l : List ByteArray} {k : Nat} {x : ByteArray} (h : k < l.length) (hx : g (nth l k) = x) : gTo g l k ++ [x] = gTo g l (k + 1) := by
  unfold gTo
  rw [List.take_succ_eq_append_getElem h, List.map_append, ← hx, nth_eq h]; rfl
theorem gTo_all (g : ByteArray → ByteArray) (l : List ByteArray) : gTo g l l.length = l.map g := by simp [gTo]
theorem gTo_len {g : ByteArray → ByteArray} {l : List ByteArray} {k : Nat} (h : k ≤ l.length) : (gTo g l k).length = k := by simp [gTo]; omega
end pl

theorem lead_q (s : ByteArray) (L : Nat) (hL : pl.ld s = L) (hs : s.size ≤ maxLen) (w : World) (n : Nat) :
    Calls Tryd.prog 35 #[.string s] (w.drewN n) fun e w'' => e = .returned (.int .i64 L) ∧ ∃ m, w'' = w.drewN m :=
  (lead_any s _ hs).mono fun e w' ⟨h1, h2⟩ => ⟨by rw [h1, hL], n, h2.symm⟩

set_option maxHeartbeats 2000000 in
theorem sDedent_any (l : List ByteArray) (v : Value) (w : World) (hr : RStrs w v l) (hlen : l.length ≤ 1048576) (hsz : ∀ i, i < l.length → (nth l i).size ≤ 1048576) :
    Calls Tryd.prog 11 #[v] w fun e w' => ∃ v', e = .returned v' ∧ OStrs w.heap.size w' v' (pl.dedR l) ∧ Below w.heap.size w w' := by
  have hlen2 : Hid (l.length ≤ maxLen) := Lib.hid (by unfold maxLen; omega)
  have hsz2 : Hid (∀ i, i < l.length → (nth l i).size ≤ maxLen) := Lib.hid (fun i hi => by have := hsz i hi; unfold maxLen; omega)
  have hll := Lib.hid hlen
  have hsz1 := Lib.hid hsz
  obtain ⟨i0, hi, hz0, hz1, hz2⟩ := info_parts infoS
  by_cases hv : pl.validLs l = true
  · have he := Lib.hid (pl.dedR_ok hv)
    have hmm := Lib.hid (pl.margin_nat l).symm
    have hmb := pl.margin_bd hv
    have hfit : Hid (∀ i, i < l.length → pl.ld (nth l i) < (nth l i).size → (pl.marginL l).toNat ≤ pl.ld (nth l i)) := Lib.hid (fun i hi h => pl.margin_le hi h)
    have hs120 := Lib.hid (pl.validLs_size hv)
    have h20 := pl.validLs_len hv
    obtain ⟨m, HM⟩ : ∃ m, Hid ((pl.marginL l).toNat = m) := ⟨_, Lib.hid rfl⟩
    rw [HM.out] at he hmm hmb hfit
    obtain ⟨n, hn⟩ : ∃ n, n = l.length := ⟨_, rfl⟩
    have HN := Lib.hid hn
    have hrr := Lib.hid hr
    obtain ⟨a0, cap0, rfl⟩ := hr.slice
    rw [← hn] at hrr h20 ⊢
    clear hn hr hlen hsz
    go_enter Tryd.func11, Tryd.ntmps11
    go_wp2_with fail
    refine (svalidLines_any l _ _ hrr.out hlen2.out hsz2.out).mono ?_
    rintro e w' ⟨rfl, rfl⟩
    rw [hv]
    clear hv
    go_wp2_with fail
    refine (smargin_any l _ _ hrr.out hll.out hsz1.out).mono ?_
    rintro e w' ⟨rfl, rfl⟩
    rw [hmm.out]
    go_wp2_with fail
    go_loopw [4, 5] (fun ov iv wr => ∃ (k : Nat), k ≤ n ∧ iv = .int .i64 k ∧ OStrs w.heap.size wr ov (pl.gTo (fun s => pl.tkS m (pl.ebS s)) l k) ∧ Below w.heap.size w wr) (fun _ iv _ => n - (intOf iv).toNat)
    case atStart => exact ⟨0, Nat.zero_le _, rfl, World.ownsRow_made _ _ _ (Nat.le_refl _) (by unfold maxLen; omega) rfl, (Below.refl _ _).alloc (Nat.le_refl _) _⟩
    case round =>
      obtain ⟨k, hk, rfl, hown, hbel⟩ := hrel
      by_cases hlt : k < n
      · have hkl : Hid (k < l.length) := Lib.hid (by rw [← HN.out]; exact hlt)
        obtain ⟨b1, o1, rfl, hx⟩ := hrr.out.at HN.out hbel hlt
        have hxm := hs120.out k hkl.out
        have hft := hfit.out k hkl.out
        obtain ⟨x, HX⟩ : ∃ x, Hid (nth l k = x) := ⟨_, Lib.hid rfl⟩
        rw [HX.out] at hx hxm hft
        obtain ⟨L, HL⟩ : ∃ L, Hid (pl.ld x = L) := ⟨_, Lib.hid rfl⟩
        have hLx := pl.ld_le x
        rw [HL.out] at hLx hft
        have hdl : Hid ((pl.gTo (fun s => pl.tkS m (pl.ebS s)) l k).length = k) := Lib.hid (pl.gTo_len (by have := hkl.out; omega))
        have HBEL := Lib.hid hbel
        by_cases hb : x.size ≤ L
        · have heq : (L : Int) = (x.size : Int) := by omega
          have hst : Hid (pl.gTo (fun s => pl.tkS m (pl.ebS s)) l k ++ [⟨#[]⟩] = pl.gTo (fun s => pl.tkS m (pl.ebS s)) l (k + 1)) := Lib.hid (pl.gTo_succ hkl.out (by rw [HX.out]; exact pl.ded_blank (by rw [HL.out]; exact hb)))
          clear hft
          go_wp2_with fail
          go_quiet ((go_at_call 35; exact lead_q x L HL.out (by unfold maxLen; omega) _ _))
          have hownD : OStrs w.heap.size (wr.drewN nq) u4 (pl.gTo (fun s => pl.tkS m (pl.ebS s)) l k) := hown.below (Nat.le_refl _) below_drewN
          have hbelD : Below w.heap.size w (wr.drewN nq) := HBEL.out.trans below_drewN
          go_wp2_with (at_builtin; refine wpList_append_own _ rfl _ _ 23 rfl w.heap.size 9 i0 (.string ByteArray.empty) 1 16 Tryd.underlying23 hi hz0 hz1 hz2 rfl (by decide) _ _ _ rfl (World.ownsRow.alloc hownD _) ⟨_, 0, none⟩ 1 1 [.string ⟨#[]⟩] rfl rfl ?cA1 ?cA2 ?cA3 ?cA4 ?cA5 ?_)
          case cA1 => exact cell_one_new _ _ _
          case cA2 => intro u hu; simp at hu; subst hu; rfl
          case cA3 => rw [hdl.out]; unfold maxLen; omega
          case cA4 => rw [hdl.out]; omega
          case cA5 => have := hbelD.size; simp at this ⊢; omega
          intro v' w1 hown' hgrow _
          have hb1 : Below w.heap.size w w1 := (hbelD.alloc hbelD.size _).grown hgrow (by have := hbelD.size; simp at this ⊢; omega) (fun g hg => (World.ownsRow.lt hownD g hg).1)
          have hown1 := OStrs.push1 hown'
          rw [hst.out] at hown1
          clear hown' hgrow hownD hbelD
          go_wp2
          go_roundw
          case rel => exact ⟨k + 1, by omega, by go_num, hown1, hb1⟩
          case measure => simp [intOf]; omega
        · have hlt2 : ¬ (L : Int) = (x.size : Int) := by omega
          have hmL : m ≤ x.size := by omega
          have hst : Hid (pl.gTo (fun s => pl.tkS m (pl.ebS s)) l k ++ [x.extract m x.size] = pl.gTo (fun s => pl.tkS m (pl.ebS s)) l (k + 1)) := Lib.hid (pl.gTo_succ hkl.out (by rw [HX.out]; exact (pl.ded_full (by rw [HL.out]; exact hb)).trans pl.ex_drop.symm))
          clear hft
          go_wp2_with fail
          go_quiet ((go_at_call 35; exact lead_q x L HL.out (by unfold maxLen; omega) _ _))
          have hownD : OStrs w.heap.size (wr.drewN nq) u4 (pl.gTo (fun s => pl.tkS m (pl.ebS s)) l k) := hown.below (Nat.le_refl _) below_drewN
          have hbelD : Below w.heap.size w (wr.drewN nq) := HBEL.out.trans below_drewN
          go_wp2_with (at_builtin; refine wpList_append_own _ rfl _ _ 23 rfl w.heap.size 9 i0 (.string ByteArray.empty) 1 16 Tryd.underlying23 hi hz0 hz1 hz2 rfl (by decide) _ _ _ rfl (World.ownsRow.alloc hownD _) ⟨_, 0, none⟩ 1 1 [.string (x.extract m x.size)] rfl rfl ?cB1 ?cB2 ?cB3 ?cB4 ?cB5 ?_)
          case cB1 => exact cell_one_new _ _ _
          case cB2 => intro u hu; simp at hu; subst hu; rfl
          case cB3 => rw [hdl.out]; unfold maxLen; omega
          case cB4 => rw [hdl.out]; omega
          case cB5 => have := hbelD.size; simp at this ⊢; omega
          intro v' w1 hown' hgrow _
          have hb1 : Below w.heap.size w w1 := (hbelD.alloc hbelD.size _).grown hgrow (by have := hbelD.size; simp at this ⊢; omega) (fun g hg => (World.ownsRow.lt hownD g hg).1)
          have hown1 := OStrs.push1 hown'
          rw [hst.out] at hown1
          clear hown' hgrow hownD hbelD
          go_wp2
          go_roundw
          case rel => exact ⟨k + 1, by omega, by go_num, hown1, hb1⟩
          case measure => simp [intOf]; omega
      · obtain rfl : k = n := by omega
        have hall : Hid (pl.gTo (fun s => pl.tkS m (pl.ebS s)) l k = pl.ded l m) := Lib.hid (by rw [HN.out]; exact pl.gTo_all _ l)
        rw [hall.out] at hown
        go_wp2_with fail
        go_ret
        exact ⟨_, rfl, by rw [he.out]; exact hown, hbel⟩
  · have hv' : pl.validLs l = false := by simpa using hv
    have he := Lib.hid (pl.dedR_no hv')
    have hrr := Lib.hid hr
    clear hv hr hlen hsz
    go_enter Tryd.func11, Tryd.ntmps11
    go_wp2_with fail
    refine (svalidLines_any l _ _ hrr.out hlen2.out hsz2.out).mono ?_
    rintro e w' ⟨rfl, rfl⟩
    rw [hv']
    go_wp2_with fail
    go_ret
    exact ⟨_, rfl, by rw [he.out]; exact OStrs.nil _ _, Below.refl _ _⟩
end Go.Proofs.YtkbfceahhginhaaRRRRDoorRRRR
