/- Contract: DrawMatchForm. -/
import Derived.Test.YtadlelcckalcoaaSomeFi
import Derived.Test.YtadlelcckalcoaaFillS
namespace Go.Proofs.Ytadlelcckalcoaa
open Go.RowKit
set_option maxRecDepth 100000
set_option linter.unusedVariables false

theorem pl.fillIs_valid {s : ByteArray} {fl : List pl.Pc} {x : List UInt8} (h : pl.FillIs s fl (some x)) : pl.validT x = true := by
  rcases h with ⟨h, _⟩ | ⟨_, ts, _, ⟨_, h⟩ | ⟨y, _, ⟨hv, h⟩ | ⟨_, h⟩⟩⟩
  · cases h
  · cases h
  · injection h with h; rw [h]; exact hv
  · cases h

set_option maxHeartbeats 4000000 in
theorem dMatchForm_any (a : Option Addr) (len cap : Nat) (zs : List Int) (w : World) (hr : IsRow .u8 w a len cap zs) :
    Calls Try.prog 17 #[.slice a len cap] w fun e w' => ∃ s t, e = .returned (.tuple #[.string s, .string t]) ∧ s.size ≤ 120 ∧ t.size ≤ 120 ∧ Below w.heap.size w w' := by
  go_enter Try.func17, Try.ntmps17
  go_wp2_with fail
  refine (newReader_any a len cap zs _ hr).mono ?_
  rintro e w1 ⟨n, c, rfl, hR, hb1⟩
  obtain ⟨D, HD⟩ : ∃ D, Hid (w.heap.size = D) := ⟨_, Lib.hid rfl⟩
  have HB1 := Lib.hid hb1
  rw [HD.out] at hR
  have hDD : D ≤ w.heap.size := Nat.le_of_eq HD.out.symm
  have hD2 : w.heap.size ≤ D := Nat.le_of_eq HD.out
  rw [HD.out]
  go_wp2_with fail
  refine (someForm_any D D n c 0 a _ hR (by omega)).mono ?_
  rintro e w2 ⟨s, rfl, hs, p2, hp2, hR2, hg2⟩
  have HB2 := Lib.hid (HB1.out.grown hg2 HB1.out.size (fun k hk => by cases hk; omega))
  clear hb1 hR hg2
  go_wp2_with fail
  refine (someFills_any D D n c p2 a _ hR2 (by omega)).mono ?_
  rintro e w3 ⟨v, fl, rfl, hq, hfl, hff, p3, hp3, hR3, hg3⟩
  have HB3 := Lib.hid (HB2.out.grown hg3 HB2.out.size (fun k hk => by cases hk; omega))
  have HRC := Lib.hid hq.reads
  clear hg3 hR2 hq
  go_wp2_with fail
  refine (sFillForm_any s fl v _ (by omega) HRC.out (by omega) (fun i hi => by have := hff i hi; omega)).mono ?_
  rintro e w4 ⟨hb4, o, ho, hres⟩
  have HB4 := Lib.hid (HB3.out.trans (hb4.mono HB3.out.size))
  have hlt := hR3.lt
  have hR4 : Rdr D D n c p3 a w4 := hR3.below (C := w3.heap.size) (by omega) hlt hb4
  clear hb4 hR3 hff
  rcases hres with ⟨x, rfl, rfl⟩ | ⟨rfl, rfl⟩
  · have hx : (pl.bs x).size ≤ 120 := by
      have := pl.validT_len (pl.fillIs_valid ho)
      exact this
    obtain ⟨X, HX⟩ : ∃ X, Hid (pl.bs x = X) := ⟨_, Lib.hid rfl⟩
    rw [HX.out] at hx ⊢
    clear ho
    go_wp2_with fail
    refine (pick_any 4 D D n c _ a _ hR4 (by omega) (by omega)).mono ?_
    rintro e w5 ⟨r, rfl, hr0, hr1, hR5, hg5⟩
    have HB5 := Lib.hid (HB4.out.grown hg5 HB4.out.size (fun k hk => by cases hk; omega))
    clear hg5 hR4
    by_cases h0 : r = 0
    · subst h0
      go_wp2_with fail
      refine (of_lit 20 7 _ rfl (by omega) (by omega) ?_ D D n c _ a _ hR5 (by omega)).mono ?_
      · simp [okStrs, ByteArray.size_mk']
      rintro e w6 ⟨t, rfl, ht, p6, hp6, hR6, hg6⟩
      have HB6 := Lib.hid (HB5.out.grown hg6 HB5.out.size (fun k hk => by cases hk; omega))
      clear hg6 hR6
      go_wp2_with fail
      go_ret2
      exact ⟨s, t, rfl, by omega, by omega, HB6.out⟩
    · have h0' : (r == 0) = false := by simp [h0]
      go_wp2_with fail
      go_ret2
      exact ⟨s, X, rfl, by omega, hx, HB5.out⟩
  · clear ho
    go_wp2_with fail
    refine (of_lit 20 7 _ rfl (by omega) (by omega) ?_ D D n c _ a _ hR4 (by omega)).mono ?_
    · simp [okStrs, ByteArray.size_mk']
    rintro e w6 ⟨t, rfl, ht, p6, hp6, hR6, hg6⟩
    have HB6 := Lib.hid (HB4.out.grown hg6 HB4.out.size (fun k hk => by cases hk; omega))
    clear hg6 hR6
    go_wp2_with fail
    go_ret2
    exact ⟨s, t, rfl, by omega, by omega, HB6.out⟩
end Go.Proofs.Ytadlelcckalcoaa
