/- Contracts: words, WordsOf of both sides. -/
import Derived.Test.YtgfpbnafehpopaaDoorValid
import Derived.Test.YtgfpbnafehpopaaDoorPkB
import Derived.Test.YtgfpbnafehpopaaDoorPkA
namespace Go.Proofs.YtgfpbnafehpopaaDoor
open Go.RowKit
set_option maxRecDepth 100000

/-- behind one more append -/
theorem OStrs.push {B : Nat} {w' : World} {v' : Value} {l : List (List UInt8)} {x : ByteArray} {y : List UInt8} (hx : x = pl.bs y) (h : w'.ownsRow B 9 1 v' (l.length + 1) (l.map (Value.string ∘ pl.bs) ++ [.string x])) : OStrs B w' v' ((l ++ [y]).map pl.bs) := by
  unfold OStrs
  subst hx
  simpa using h

end Go.Proofs.YtgfpbnafehpopaaDoor
