/- Contracts: aWidth, and the draws of words and a width. -/
import Derived.Test.YtfajllfedhifkaaDrawS
namespace Go.Proofs.Ytfajllfedhifkaa
open Go.RowKit
set_option maxRecDepth 100000

set_option maxHeartbeats 1000000 in
theorem aWidth_any (B g n c p : Nat) (ao : Option Addr) (w : World) (h : Rdr B g n c p ao w) (hp : p ≤ 900000) :
    Calls Try.prog 49 #[.pointer (some ⟨g, 0, none⟩)] w (GotInt 0 121 (p + 1) B g n c ao w) := by
  go_enter Try.func49, Try.ntmps49
  go_wp2_with fail
  refine (one_lit 0 121 12 _ rfl (by omega) (by omega) ?_ B g n c p ao _ h (by omega)).mono ?_
  · simp [okInts]
  rintro e w1 ⟨x, rfl, hx0, hx8, p1, hp1, hR1, hg1⟩
  go_wp2_with fail
  go_ret
  exact ⟨x, rfl, hx0, hx8, p1, hp1, hR1, hg1⟩

def GotBoth (w : World) (e : Ending) (w' : World) : Prop := ∃ (v : Value) (l : List ByteArray) (x : Int), e = .returned (.tuple #[v, .int .i64 x]) ∧ OStrs w.heap.size w' v l ∧ l.length ≤ 10 ∧ few 20 l ∧ 0 ≤ x ∧ x ≤ 121 ∧ Below w.heap.size w w'

set_option maxHeartbeats 1000000 in
theorem dWrapWords_any (a : Option Addr) (len cap : Nat) (zs : List Int) (w : World) (hr : IsRow .u8 w a len cap zs) :
    Calls Try.prog 16 #[.slice a len cap] w (GotBoth w) := by
  go_enter Try.func16, Try.ntmps16
  go_wp2_with fail
  refine (newReader_any a len cap zs _ hr).mono ?_
  rintro e w1 ⟨n, c, rfl, hR, hb1⟩
  go_wp2_with fail
  refine (someWords_any _ _ n c 0 a _ hR (by omega)).mono ?_
  rintro e w2 ⟨v, l, rfl, ho, hl, hf, p2, hp2, hR2, hg2⟩
  have b2 := Lib.hid (hb1.grown hg2 hb1.size (fun k hk => by cases hk; exact Nat.le_refl _))
  have HO := Lib.hid ho
  have S1 := Lib.hid hb1.size
  clear ho
  go_wp2_with fail
  refine (aWidth_any _ _ n c p2 a _ hR2 (by omega)).mono ?_
  rintro e w3 ⟨x, rfl, hx0, hx6, p3, hp3, hR3, hg3⟩
  have b3 := Lib.hid (b2.out.grown hg3 b2.out.size (fun k hk => by cases hk; exact Nat.le_refl _))
  have HO3 := Lib.hid (HO.out.read hg3 hR.lt)
  go_wp2_with fail
  go_ret2
  exact ⟨v, l, x, rfl, HO3.out.mono S1.out, hl, hf, hx0, hx6, b3.out⟩

set_option maxHeartbeats 1000000 in
theorem dEvenWrap_any (a : Option Addr) (len cap : Nat) (zs : List Int) (w : World) (hr : IsRow .u8 w a len cap zs) :
    Calls Try.prog 27 #[.slice a len cap] w (GotBoth w) := by
  go_enter Try.func27, Try.ntmps27
  go_wp2_with fail
  refine (newReader_any a len cap zs _ hr).mono ?_
  rintro e w1 ⟨n, c, rfl, hR, hb1⟩
  go_wp2_with fail
  refine (someWords_any _ _ n c 0 a _ hR (by omega)).mono ?_
  rintro e w2 ⟨v, l, rfl, ho, hl, hf, p2, hp2, hR2, hg2⟩
  have b2 := Lib.hid (hb1.grown hg2 hb1.size (fun k hk => by cases hk; exact Nat.le_refl _))
  have HO := Lib.hid ho
  have S1 := Lib.hid hb1.size
  clear ho
  go_wp2_with fail
  refine (aWidth_any _ _ n c p2 a _ hR2 (by omega)).mono ?_
  rintro e w3 ⟨x, rfl, hx0, hx6, p3, hp3, hR3, hg3⟩
  have b3 := Lib.hid (b2.out.grown hg3 b2.out.size (fun k hk => by cases hk; exact Nat.le_refl _))
  have HO3 := Lib.hid (HO.out.read hg3 hR.lt)
  go_wp2_with fail
  go_ret2
  exact ⟨v, l, x, rfl, HO3.out.mono S1.out, hl, hf, hx0, hx6, b3.out⟩

set_option maxHeartbeats 1000000 in
theorem dWaysOf_any (a : Option Addr) (len cap : Nat) (zs : List Int) (w : World) (hr : IsRow .u8 w a len cap zs) :
    Calls Try.prog 34 #[.slice a len cap] w (GotBoth w) := by
  go_enter Try.func34, Try.ntmps34
  go_wp2_with fail
  refine (newReader_any a len cap zs _ hr).mono ?_
  rintro e w1 ⟨n, c, rfl, hR, hb1⟩
  go_wp2_with fail
  refine (someWords_any _ _ n c 0 a _ hR (by omega)).mono ?_
  rintro e w2 ⟨v, l, rfl, ho, hl, hf, p2, hp2, hR2, hg2⟩
  have b2 := Lib.hid (hb1.grown hg2 hb1.size (fun k hk => by cases hk; exact Nat.le_refl _))
  have HO := Lib.hid ho
  have S1 := Lib.hid hb1.size
  clear ho
  go_wp2_with fail
  refine (aWidth_any _ _ n c p2 a _ hR2 (by omega)).mono ?_
  rintro e w3 ⟨x, rfl, hx0, hx6, p3, hp3, hR3, hg3⟩
  have b3 := Lib.hid (b2.out.grown hg3 b2.out.size (fun k hk => by cases hk; exact Nat.le_refl _))
  have HO3 := Lib.hid (HO.out.read hg3 hR.lt)
  go_wp2_with fail
  go_ret2
  exact ⟨v, l, x, rfl, HO3.out.mono S1.out, hl, hf, hx0, hx6, b3.out⟩

set_option maxHeartbeats 1000000 in
theorem dJustifyWords_any (a : Option Addr) (len cap : Nat) (zs : List Int) (w : World) (hr : IsRow .u8 w a len cap zs) :
    Calls Try.prog 37 #[.slice a len cap] w (GotBoth w) := by
  go_enter Try.func37, Try.ntmps37
  go_wp2_with fail
  refine (newReader_any a len cap zs _ hr).mono ?_
  rintro e w1 ⟨n, c, rfl, hR, hb1⟩
  go_wp2_with fail
  refine (someWords_any _ _ n c 0 a _ hR (by omega)).mono ?_
  rintro e w2 ⟨v, l, rfl, ho, hl, hf, p2, hp2, hR2, hg2⟩
  have b2 := Lib.hid (hb1.grown hg2 hb1.size (fun k hk => by cases hk; exact Nat.le_refl _))
  have HO := Lib.hid ho
  have S1 := Lib.hid hb1.size
  clear ho
  go_wp2_with fail
  refine (aWidth_any _ _ n c p2 a _ hR2 (by omega)).mono ?_
  rintro e w3 ⟨x, rfl, hx0, hx6, p3, hp3, hR3, hg3⟩
  have b3 := Lib.hid (b2.out.grown hg3 b2.out.size (fun k hk => by cases hk; exact Nat.le_refl _))
  have HO3 := Lib.hid (HO.out.read hg3 hR.lt)
  go_wp2_with fail
  go_ret2
  exact ⟨v, l, x, rfl, HO3.out.mono S1.out, hl, hf, hx0, hx6, b3.out⟩
end Go.Proofs.Ytfajllfedhifkaa
