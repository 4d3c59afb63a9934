/- The library's variable holds a number: drawn from the world's shape. -/
import Derived.Test.YtadlelcckalcoaaQuot
import Derived.Shelf.Vars
namespace Go.Proofs.Ytadlelcckalcoaa
open Go.RowKit
set_option maxRecDepth 100000

theorem MaxI.of_shaped {w : World} (h : w.ShapedOpen Try.prog) : MaxI w := by
  have hg : 0 < Try.prog.globals.size := of_decide_eq_true (by kernel_rfl)
  have h0 : ((begin Try.prog (fun _ _ => 0) default).world.heap[0]?).bind Obj.row? = some (#[.int .i64 0], 3) := by kernel_rfl
  have hc := cell_of_shapedOpen_int (P := Try.prog) (g := 0) (t := 3) (zero := #[.int .i64 0]) h hg h0 rfl (by kernel_rfl) (by kernel_rfl) Try.underlying3
  obtain ⟨cs, hh, _, _⟩ := h.1 0 #[.int .i64 0] 3 hg h0
  exact ⟨(Array.getElem?_eq_some_iff.1 hh).1, hc⟩
end Go.Proofs.Ytadlelcckalcoaa
