/- The walk of FnReadCells. -/
import Derived.Test.YtpfheanpbbfpdaaDoorDrawTb
import Derived.Test.YtpfheanpbbfpdaaDoorMut
import Derived.Test.YtpfheanpbbfpdaaDoorReadD
import Derived.Test.YtpfheanpbbfpdaaDoorMaxI
import Derived.Test.YtpfheanpbbfpdaaDoorRend
namespace Go.Proofs.YtpfheanpbbfpdaaDoor
open Go.RowKit
set_option maxRecDepth 100000
set_option linter.unusedVariables false

theorem lit3 (w : World) (a b c : ByteArray) (T : TypeId) : LStrs (w.alloc (.cells #[.string a, .string b, .string c] T)) (.slice (some ⟨w.heap.size, 0, none⟩) 3 3) [a, b, c] :=
  ⟨block_strs (l := [a, b, c]) (heap_alloc_new w _) (by simp), _, 3, rfl, by simp⟩
theorem few3 {a b c : ByteArray} {M : Nat} (h1 : a.size ≤ M) (h2 : b.size ≤ M) (h3 : c.size ≤ M) : ∀ i, i < [a, b, c].length → (nth [a, b, c] i).size ≤ M := by
  intro i hi
  match i, hi with
  | 0, _ => exact h1
  | 1, _ => exact h2
  | 2, _ => exact h3

set_option maxHeartbeats 4000000 in
theorem dReadCells_any (a : Option Addr) (len cap : Nat) (zs : List Int) (w : World) (hr : IsRow .u8 w a len cap zs) :
    Calls Tryd.prog 21 #[.slice a len cap] w fun e w' => ∃ s, e = .returned (.string s) ∧ s.size ≤ 200 ∧ Below w.heap.size w w' := by
  go_enter Tryd.func21, Tryd.ntmps21
  go_wp2_with fail
  refine (newReader_any a len cap zs _ hr).mono ?_
  rintro e w1 ⟨n, c, rfl, hR1, hb1⟩
  have HB1 := Lib.hid hb1
  have hgw : w.heap.size < w1.heap.size := hR1.lt
  clear hb1
  go_wp2_with fail
  refine (someCell_any _ _ n c 0 a _ hR1 (by omega)).mono ?_
  rintro e w2 ⟨s1, rfl, hs1, p2, hp2, hR2, hg2⟩
  go_wp2_with fail
  refine (someCell_any _ _ n c p2 a _ hR2 (by omega)).mono ?_
  rintro e w3 ⟨s2, rfl, hs2, p3, hp3, hR3, hg3⟩
  go_wp2_with fail
  refine (someCell_any _ _ n c p3 a _ hR3 (by omega)).mono ?_
  rintro e w4 ⟨s3, rfl, hs3, p4, hp4, hR4, hg4⟩
  have HG4 := Lib.hid (grown_tr hg2 (grown_tr hg3 hg4))
  have hg4w : w.heap.size < w4.heap.size := hR4.lt
  clear hg2 hg3 hg4
  go_wp2_with fail
  have hA : Below w4.heap.size w4 (w4.alloc (.cells #[.string s1, .string s2, .string s3] 9)) := (Below.refl _ _).alloc (Nat.le_refl _) _
  have HG5 := Lib.hid (grown_tr HG4.out (grown_of_below hA))
  have hR5 := hR4.below (C := w4.heap.size) (by omega) hg4w hA
  refine (sQuoteCells_any [s1, s2, s3] _ _ (lit3 w4 s1 s2 s3 _) (by simp) (few3 (by omega) (by omega) (by omega))).mono ?_
  rintro e w5 ⟨rfl, hb5⟩
  have hsz5 : (w4.alloc (.cells #[.string s1, .string s2, .string s3] 9)).heap.size = w4.heap.size + 1 := by simp
  have hR6 := hR5.below (C := (w4.alloc (.cells #[.string s1, .string s2, .string s3] 9)).heap.size) (by omega) (by omega) hb5
  have HG6 := Lib.hid (grown_tr HG5.out (grown_of_below hb5))
  have hq := pl.quoR_size' [s1, s2, s3]
  obtain ⟨q, HQ⟩ : ∃ q, Hid (pl.quoR [s1, s2, s3] = q) := ⟨_, Lib.hid rfl⟩
  rw [HQ.out] at hq ⊢
  clear hA hR5 hb5 hsz5 HG5 hR2 hR3 hR4 hR1
  go_wp2_with fail
  refine (pick_any 3 _ _ n c p4 a _ hR6 (by omega) (by omega)).mono ?_
  rintro e w6 ⟨r, rfl, hr0, hr1, hR7, hg7⟩
  have HG7 := Lib.hid (grown_tr HG6.out hg7)
  clear hg7 hr1
  by_cases e0 : r = 0
  · subst e0
    go_wp2_with fail
    refine (mutate_any 175 q hq (by omega) _ _ n c (p4 + 1) a _ hR7 (by omega)).mono ?_
    rintro e w7 ⟨s, rfl, hs, p7, hp7, hR8, hg8⟩
    have HG8 := Lib.hid (grown_tr HG7.out hg8)
    clear hg8
    go_wp2_with fail
    go_ret
    exact ⟨s, rfl, by omega, HB1.out.grown HG8.out HB1.out.size (fun k hk => by cases hk; exact Nat.le_refl _)⟩
  · have e0' : (r == 0) = false := beq_eq_false_iff_ne.2 e0
    clear e0
    go_wp2_with fail
    go_ret
    exact ⟨q, rfl, by omega, HB1.out.grown HG7.out HB1.out.size (fun k hk => by cases hk; exact Nat.le_refl _)⟩

set_option maxHeartbeats 4000000 in
theorem fnReadCells_walk (a : Option Addr) (len cap : Nat) (zs : List Int) (w : World) (hr : IsRow .u8 w a len cap zs) (hmx : MaxI w) :
    Calls Tryd.prog 4 #[.slice a len cap] w fun e w' => e = .returned (.bool true) ∧ Below w.heap.size w w' := by
  have hlen := row_len hr
  have HMX := Lib.hid hmx
  clear hmx
  by_cases hb : 1048576 < len
  · go_enter Tryd.func4, Tryd.ntmps4
    go_wp2
    go_ret
    exact ⟨rfl, Below.refl _ _⟩
  · go_enter Tryd.func4, Tryd.ntmps4
    go_wp2_with fail
    refine (dReadCells_any a len cap zs _ hr).mono ?_
    rintro e w1 ⟨s, rfl, hs, hb1⟩
    have HB1 := Lib.hid hb1
    have HM1 := Lib.hid (HMX.out.below (Nat.le_refl _) hb1)
    clear hb1
    have HDZ := Lib.hid (pl.rcR_len s)
    obtain ⟨D, HD⟩ : ∃ D, Hid (pl.rcR s = D) := ⟨_, Lib.hid rfl⟩
    obtain ⟨G, HG⟩ : ∃ G, Hid (pl.rcB s = G) := ⟨_, Lib.hid rfl⟩
    rw [HD.out] at HDZ
    go_wp2_with fail
    refine (iReadCells_any s _ (by omega) HM1.out).mono ?_
    rintro e w2 ⟨v2, rfl, ho2, hb2⟩
    rw [HD.out] at ho2
    rw [HG.out]
    have HO2 := Lib.hid ho2
    have HB2 := Lib.hid (HB1.out.trans (hb2.mono HB1.out.size))
    clear hb2 ho2
    go_wp2_with fail
    refine (sReadCells_any s _ (by omega)).mono ?_
    rintro e w3 ⟨v3, rfl, ho3, hb3⟩
    rw [HD.out] at ho3
    rw [HG.out]
    have HP3 := Lib.hid ho3.reads
    have HO3 := Lib.hid (HO2.out.below (Nat.le_refl _) hb3)
    have HB3 := Lib.hid (HB2.out.trans (hb3.mono HB2.out.size))
    clear hb3 ho3
    go_wp2_with fail
    refine (equalTexts_selfM D v2 v3 _ HO3.out.reads HP3.out (by have := HDZ.out; omega)).mono ?_
    rintro e w4 ⟨rfl, hb4⟩
    have HO4 := Lib.hid (HO3.out.below (Nat.le_refl _) hb4)
    have HP4 := Lib.hid (HP3.out.below (Nat.le_refl _) hb4)
    have HB4 := Lib.hid (HB3.out.trans (hb4.mono HB3.out.size))
    clear hb4
    cases hv : G with
    | false =>
      subst hv
      go_wp2_with fail
      refine (equalTexts_selfM D v2 v3 _ HO4.out.reads HP4.out (by have := HDZ.out; omega)).mono ?_
      rintro e w5 ⟨rfl, hb5⟩
      have HB5 := Lib.hid (HB4.out.trans (hb5.mono HB4.out.size))
      clear hb5
      go_wp2_with fail
      go_ret
      exact ⟨rfl, HB5.out⟩
    | true =>
      subst hv
      have hQ : pl.quoR D = s := by rw [← HD.out]; unfold pl.rcR; rw [if_pos HG.out]; exact pl.rcB_quo HG.out
      have hV : pl.vCells D = true := by rw [← HD.out]; unfold pl.rcR; rw [if_pos HG.out]; exact pl.rcB_valid HG.out
      obtain ⟨h1, h5, _⟩ := pl.vCells_parts hV
      have HQ := Lib.hid hQ
      have HSZ : Hid (∀ i, i < D.length → (nth D i).size ≤ 1048576) := Lib.hid (fun i hi => by have := pl.vCells_size hV i hi; omega)
      have HM4 := Lib.hid (HMX.out.below (Nat.le_refl _) HB4.out)
      have HR4 := Lib.hid HO4.out.reads
      obtain ⟨a2, c2, hv2⟩ := HR4.out.slice
      obtain ⟨m, HM⟩ : ∃ m, Hid (D.length = m) := ⟨_, Lib.hid rfl⟩
      rw [HM.out] at hv2 h1 h5
      subst hv2
      clear hQ hV
      go_wp2_with fail
      refine (iQuoteCells_any D _ _ HR4.out (by rw [HM.out]; omega) HSZ.out HM4.out).mono ?_
      rintro e w5 ⟨rfl, hb5⟩
      rw [HQ.out]
      have HB5 := Lib.hid (HB4.out.trans (hb5.mono HB4.out.size))
      clear hb5
      have hm0 : (0 : Int) < (m : Int) := by omega
      go_wp2_with fail
      go_ret
      exact ⟨by show Ending.returned (.bool (decide (0 < m))) = _; rw [decide_eq_true (by omega)], HB5.out⟩
end Go.Proofs.YtpfheanpbbfpdaaDoor
