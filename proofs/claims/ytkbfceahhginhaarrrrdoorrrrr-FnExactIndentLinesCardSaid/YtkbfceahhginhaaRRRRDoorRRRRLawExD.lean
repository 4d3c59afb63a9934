/- The walk of FnExactDedentLines. -/
import Derived.Test.YtkbfceahhginhaaRRRRDoorRRRRArgs
import Derived.Test.YtkbfceahhginhaaRRRRDoorRRRRDedent
import Derived.Test.YtkbfceahhginhaaRRRRDoorRRRRLawExW
namespace Go.Proofs.YtkbfceahhginhaaRRRRDoorRRRR
open Go.RowKit
set_option maxRecDepth 100000

namespace pl
theorem dedR_len (l : List ByteArray) : (dedR l).length ≤ l.length := by
  unfold dedR; split
  · rw [ded_len]; exact Nat.le_refl _
  · exact Nat.zero_le _
end pl

end Go.Proofs.YtkbfceahhginhaaRRRRDoorRRRR
