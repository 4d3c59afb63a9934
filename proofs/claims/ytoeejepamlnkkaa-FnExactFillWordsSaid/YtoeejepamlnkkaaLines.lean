/- Contracts: lines, their leads and margins. -/
import Derived.Test.YtoeejepamlnkkaaLinesV
namespace Go.Proofs.Ytoeejepamlnkkaa
open Go.RowKit
set_option maxRecDepth 100000

namespace pl
def blank (s : ByteArray) : Bool := decide (s.size ≤ ld s)
theorem blank_yes {s : ByteArray} (h : s.size ≤ ld s) : blank s = true := by simp [blank, h]
theorem blank_no {s : ByteArray} (h : ¬ s.size ≤ ld s) : blank s = false := by simp [blank, h]
theorem ld_zero (s : ByteArray) : leadL (s.data.toList.drop 0) + 0 = ld s := rfl
end pl

namespace pl
theorem mTo_yes {l : List ByteArray} {k : Nat} {x : ByteArray} {o : Int} {L : Nat} (hk : k < l.length) (hx : nth l k = x) (ho : mTo l k = o) (hL : ld x = L) (h1 : L < x.size) (h2 : o < 0 ∨ (L : Int) < o) : mTo l (k + 1) = L := by
  subst hx ho hL; rw [mTo_succ hk]; exact stepM_yes h1 h2
theorem mTo_no {l : List ByteArray} {k : Nat} {x : ByteArray} {o : Int} {L : Nat} (hk : k < l.length) (hx : nth l k = x) (ho : mTo l k = o) (hL : ld x = L) (h : x.size ≤ L ∨ (0 ≤ o ∧ o ≤ L)) : mTo l (k + 1) = o := by
  subst hx ho hL; rw [mTo_succ hk]; exact stepM_no h
end pl

end Go.Proofs.Ytoeejepamlnkkaa
