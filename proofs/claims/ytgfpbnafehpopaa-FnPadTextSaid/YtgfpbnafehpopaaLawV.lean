/- The walk of FnValidText. -/
import Derived.Test.YtgfpbnafehpopaaValid
import Derived.Test.YtgfpbnafehpopaaDraw3
import Derived.Test.YtgfpbnafehpopaaPlainW
namespace Go.Proofs.Ytgfpbnafehpopaa.pl
theorem validT_drop {s : ByteArray} (h : validT s.data.toList = true) : validT (s.extract 1 s.size).data.toList = true := by
  unfold validT at h ⊢
  rw [ex_bs, bs_data]
  simp only [Bool.and_eq_true, List.all_eq_true, decide_eq_true_eq] at h ⊢
  refine ⟨fun c hc => h.1 c (List.mem_of_mem_drop (List.mem_of_mem_take hc)), ?_⟩
  have := h.2
  unfold seg
  rw [List.length_take, List.length_drop]; omega
end Go.Proofs.Ytgfpbnafehpopaa.pl
namespace Go.Proofs.Ytgfpbnafehpopaa
open Go.RowKit
set_option maxRecDepth 100000

end Go.Proofs.Ytgfpbnafehpopaa
