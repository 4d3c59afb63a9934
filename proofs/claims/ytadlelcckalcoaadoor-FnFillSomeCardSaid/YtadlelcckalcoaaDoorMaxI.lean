/- The library's variable holds a number: drawn from the world's shape. -/
import Derived.Test.YtadlelcckalcoaaDoorQuot
import Derived.Shelf.Vars
namespace Go.Proofs.YtadlelcckalcoaaDoor
open Go.RowKit
set_option maxRecDepth 100000

theorem MaxI.of_shaped {w : World} (h : w.ShapedOpen Tryd.prog) : MaxI w := by
  have hg : 1 < Tryd.prog.globals.size := of_decide_eq_true (by kernel_rfl)
  have h0 : ((begin Tryd.prog (fun _ _ => 0) default).world.heap[1]?).bind Obj.row? = some (#[.int .i64 0], 3) := by kernel_rfl
  have hc := cell_of_shapedOpen_int (P := Tryd.prog) (g := 1) (t := 3) (zero := #[.int .i64 0]) h hg h0 rfl (by kernel_rfl) (by kernel_rfl) Tryd.underlying3
  obtain ⟨cs, hh, _, _⟩ := h.1 1 #[.int .i64 0] 3 hg h0
  exact ⟨(Array.getElem?_eq_some_iff.1 hh).1, hc⟩
end Go.Proofs.YtadlelcckalcoaaDoor
