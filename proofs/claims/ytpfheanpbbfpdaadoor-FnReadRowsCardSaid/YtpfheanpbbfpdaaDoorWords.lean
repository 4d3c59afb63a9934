/- Contracts: words, WordsOf of both sides. -/
import Derived.Test.YtpfheanpbbfpdaaDoorValid
import Derived.Test.YtpfheanpbbfpdaaDoorPkB
import Derived.Test.YtpfheanpbbfpdaaDoorPkA
namespace Go.Proofs.YtpfheanpbbfpdaaDoor
open Go.RowKit
set_option maxRecDepth 100000

/-- behind one more append -/
theorem OStrs.push {B : Nat} {w' : World} {v' : Value} {l : List (List UInt8)} {x : ByteArray} {y : List UInt8} (hx : x = pl.bs y) (h : w'.ownsRow B 9 1 v' (l.length + 1) (l.map (Value.string ∘ pl.bs) ++ [.string x])) : OStrs B w' v' ((l ++ [y]).map pl.bs) := by
  unfold OStrs
  subst hx
  simpa using h

end Go.Proofs.YtpfheanpbbfpdaaDoor
