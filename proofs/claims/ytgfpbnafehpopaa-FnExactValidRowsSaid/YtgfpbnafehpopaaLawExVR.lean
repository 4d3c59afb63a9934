/- The walk of FnExactValidRows. -/
import Derived.Test.YtgfpbnafehpopaaTbV
import Derived.Test.YtgfpbnafehpopaaSpan
import Derived.Test.YtgfpbnafehpopaaArgsP
namespace Go.Proofs.Ytgfpbnafehpopaa
open Go.RowKit
set_option maxRecDepth 100000
set_option linter.unusedVariables false

set_option maxHeartbeats 8000000 in
theorem fnExactValidRows_walk (a0 : Option Addr) (len0 cap0 : Nat) (w : World) (h0 : IsParts w a0 len0 cap0) :
    Calls Try.prog 9 #[.slice a0 len0 cap0] w fun e w' => e = .returned (.bool true) ∧ Below w.heap.size w w' := by
  obtain ⟨ps0, hr0, hbig0⟩ := h0.reads
  have HR0 := Lib.hid hr0
  have HBG0 := Lib.hid hbig0
  clear h0 hr0 hbig0
  go_enter Try.func9, Try.ntmps9
  go_wp2_with fail
  refine (szSS_any ps0 _ _ HR0.out HBG0.out).mono ?_
  rintro e w' ⟨⟨r, rfl, hres⟩, rfl⟩
  rcases hres with hneg | ⟨hpos, hsm, htot, hr1⟩
  · go_wp2_with fail
    go_ret
    exact ⟨rfl, Below.refl _ _⟩
  have HS0 := Lib.hid hsm
  have HT0 := Lib.hid htot
  have HL0 : Hid (ps0.length ≤ 2000000) := Lib.hid (by have := HS0.out.len; omega)
  clear hsm htot
  obtain ⟨q, rfl⟩ := Int.eq_ofNat_of_zero_le hpos
  obtain ⟨D, HD⟩ : ∃ D, Hid (pl.vRows ps0 = D) := ⟨_, Lib.hid rfl⟩
  go_wp2_with fail
  refine (toSS_any ps0 _ _ HR0.out HS0.out).mono ?_
  rintro e w1 ⟨a0v, rfl, ho, hb⟩
  have A0 := Lib.hid (ho.x hb.size)
  clear ho
  have S1 : Hid (w.heap.size ≤ w1.heap.size) := Lib.hid hb.size
  have HB1 := Lib.hid hb
  clear hb
  go_wp2_with fail
  refine (sValidRows_any ps0 a0v _ A0.out.reads HS0.out).mono ?_
  rintro e w2 ⟨rfl, hb⟩
  rw [HD.out]
  have S2 : Hid (w1.heap.size ≤ w2.heap.size) := Lib.hid hb.size
  replace A0 := Lib.hid (A0.out.below hb)
  have HB2 := Lib.hid (HB1.out.trans (hb.mono HB1.out.size))
  clear hb
  clear A0
  go_wp2_with fail
  refine (toSS_any ps0 _ _ (HR0.out.below (Nat.le_refl _) HB2.out) HS0.out).mono ?_
  rintro e w3 ⟨x0v, rfl, ho, hb⟩
  have X0 := Lib.hid (ho.x hb.size)
  clear ho
  have S3 : Hid (w2.heap.size ≤ w3.heap.size) := Lib.hid hb.size
  have HB3 := Lib.hid (HB2.out.trans (hb.mono HB2.out.size))
  clear hb
  go_wp2_with fail
  refine (iValidRows_any ps0 x0v _ X0.out.reads HS0.out).mono ?_
  rintro e w4 ⟨rfl, hb⟩
  rw [HD.out]
  have S4 : Hid (w3.heap.size ≤ w4.heap.size) := Lib.hid hb.size
  replace X0 := Lib.hid (X0.out.below hb)
  have HB4 := Lib.hid (HB3.out.trans (hb.mono HB3.out.size))
  clear hb
  go_wp2_with fail
  refine (toSS_any ps0 _ _ (HR0.out.below (Nat.le_refl _) HB4.out) HS0.out).mono ?_
  rintro e w5 ⟨y0v, rfl, ho, hb⟩
  have Y0 := Lib.hid (ho.x hb.size)
  clear ho
  have S5 : Hid (w4.heap.size ≤ w5.heap.size) := Lib.hid hb.size
  replace X0 := Lib.hid (X0.out.below hb)
  have HB5 := Lib.hid (HB4.out.trans (hb.mono HB4.out.size))
  clear hb
  go_wp2_with fail
  refine (eqSS_same ps0 x0v y0v _ X0.out.reads Y0.out.reads HL0.out (fun k hk => by have := HS0.out.rows k hk; omega)).mono ?_
  rintro e w6 ⟨rfl, hb⟩
  have S6 : Hid (w5.heap.size ≤ w6.heap.size) := Lib.hid hb.size
  replace X0 := Lib.hid (X0.out.below hb)
  replace Y0 := Lib.hid (Y0.out.below hb)
  have HB6 := Lib.hid (HB5.out.trans (hb.mono HB5.out.size))
  clear hb
  clear Y0
  go_wp2_with fail
  go_ret
  exact ⟨rfl, HB6.out⟩
end Go.Proofs.Ytgfpbnafehpopaa
