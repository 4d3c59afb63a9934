/- Contracts of library functions, laid at this program by the guide's own tool, in plain words. -/
import Derived.Test.YtckfpneooknifaaShelfQ
import Derived.Test.YtckfpneooknifaaShelfC
import Derived.Test.YtckfpneooknifaaProg
namespace Go.Proofs
open Go.Shelf
end Go.Proofs
