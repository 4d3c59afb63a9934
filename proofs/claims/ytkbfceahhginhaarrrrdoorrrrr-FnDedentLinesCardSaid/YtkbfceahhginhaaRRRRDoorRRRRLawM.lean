/- DrawMarginOf, and the walk of FnMarginOf. -/
import Derived.Test.YtkbfceahhginhaaRRRRDoorRRRRSomeLines
import Derived.Test.YtkbfceahhginhaaRRRRDoorRRRRIndent
import Derived.Test.YtkbfceahhginhaaRRRRDoorRRRRBytes
import Derived.Test.YtkbfceahhginhaaRRRRDoorRRRRLawV
import Derived.Test.YtkbfceahhginhaaRRRRDoorRRRRPlainN
import Derived.Test.YtkbfceahhginhaaRRRRDoorRRRRWords
namespace Go.Proofs.YtkbfceahhginhaaRRRRDoorRRRR
open Go.RowKit
set_option maxRecDepth 100000

set_option maxHeartbeats 1000000 in
theorem dDedentLines_any (a : Option Addr) (len cap : Nat) (zs : List Int) (w : World) (hr : IsRow .u8 w a len cap zs) :
    Calls Tryd.prog 8 #[.slice a len cap] w fun e w' => ∃ v l, e = .returned v ∧ OStrs w.heap.size w' v l ∧ l.length ≤ 6 ∧ few 120 l ∧ Below w.heap.size w w' := by
  go_enter Tryd.func8, Tryd.ntmps8
  go_wp2_with fail
  refine (newReader_any a len cap zs _ hr).mono ?_
  rintro e w1 ⟨n, c, rfl, hR, hb1⟩
  go_wp2_with fail
  refine (someLines_any _ _ n c 0 a _ hR (by omega)).mono ?_
  rintro e w2 ⟨v, l, rfl, ho, hl, hf, p', _, _, hg⟩
  go_wp2_with fail
  go_ret
  exact ⟨v, l, rfl, ho.mono hb1.size, hl, hf, hb1.grown hg hb1.size (fun k hk => by cases hk; exact Nat.le_refl _)⟩

set_option maxHeartbeats 1000000 in
theorem dIndentLines_any (a : Option Addr) (len cap : Nat) (zs : List Int) (w : World) (hr : IsRow .u8 w a len cap zs) :
    Calls Tryd.prog 15 #[.slice a len cap] w fun e w' => ∃ (v : Value) (l : List ByteArray) (x : Int), e = .returned (.tuple #[v, .int .i64 x]) ∧ OStrs w.heap.size w' v l ∧ l.length ≤ 6 ∧ few 120 l ∧ -1 ≤ x ∧ x ≤ 11 ∧ Below w.heap.size w w' := by
  go_enter Tryd.func15, Tryd.ntmps15
  go_wp2_with fail
  refine (newReader_any a len cap zs _ hr).mono ?_
  rintro e w1 ⟨n, c, rfl, hR, hb1⟩
  go_wp2_with fail
  refine (someLines_any _ _ n c 0 a _ hR (by omega)).mono ?_
  rintro e w2 ⟨v, l, rfl, ho, hl, hf, p2, hp2, hR2, hg2⟩
  have b2 := Lib.hid (hb1.grown hg2 hb1.size (fun k hk => by cases hk; exact Nat.le_refl _))
  have HO := Lib.hid ho
  have S1 := Lib.hid hb1.size
  clear ho
  go_wp2_with fail
  refine (one_lit (-1) 11 7 _ rfl (by omega) (by omega) ?_ _ _ n c p2 a _ hR2 (by omega)).mono ?_
  · simp [okInts]
  rintro e w3 ⟨x, rfl, hx0, hx6, p3, hp3, hR3, hg3⟩
  have b3 := Lib.hid (b2.out.grown hg3 b2.out.size (fun k hk => by cases hk; exact Nat.le_refl _))
  have HO3 := Lib.hid (HO.out.read hg3 hR.lt)
  go_wp2_with fail
  go_ret2
  exact ⟨v, l, x, rfl, HO3.out.mono S1.out, hl, hf, hx0, hx6, b3.out⟩

theorem pl.dedR_len2 (l : List ByteArray) : (pl.dedR l).length ≤ l.length := by
  unfold pl.dedR; split
  · rw [pl.ded_len]; exact Nat.le_refl _
  · exact Nat.zero_le _

end Go.Proofs.YtkbfceahhginhaaRRRRDoorRRRR
