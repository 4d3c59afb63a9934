/- The walk of FnValidText. -/
import Derived.Test.YtcghlhjlfppllaaDoorValid
import Derived.Test.YtcghlhjlfppllaaDoorDraw3
import Derived.Test.YtcghlhjlfppllaaDoorPlainW
namespace Go.Proofs.YtcghlhjlfppllaaDoor.pl
theorem validT_drop {s : ByteArray} (h : validT s.data.toList = true) : validT (s.extract 1 s.size).data.toList = true := by
  unfold validT at h ⊢
  rw [ex_bs, bs_data]
  simp only [Bool.and_eq_true, List.all_eq_true, decide_eq_true_eq] at h ⊢
  refine ⟨fun c hc => h.1 c (List.mem_of_mem_drop (List.mem_of_mem_take hc)), ?_⟩
  have := h.2
  unfold seg
  rw [List.length_take, List.length_drop]; omega
end Go.Proofs.YtcghlhjlfppllaaDoor.pl
namespace Go.Proofs.YtcghlhjlfppllaaDoor
open Go.RowKit
set_option maxRecDepth 100000

theorem row_len {k : IntKind} {w : World} {a : Option Addr} {len cap : Nat} {zs : List Int} (h : IsRow k w a len cap zs) : len ≤ 9223372036854775807 := by
  rcases h with ⟨_, h, _⟩ | ⟨x, _, hl, hm, _⟩
  · omega
  · unfold maxLen at hm; omega

end Go.Proofs.YtcghlhjlfppllaaDoor
