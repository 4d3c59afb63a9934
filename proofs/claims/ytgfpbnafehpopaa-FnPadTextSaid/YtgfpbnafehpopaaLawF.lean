/- The walk of FnFoldText. -/
import Derived.Test.YtgfpbnafehpopaaFold
import Derived.Test.YtgfpbnafehpopaaBytes
import Derived.Test.YtgfpbnafehpopaaEq
import Derived.Test.YtgfpbnafehpopaaLawV
namespace Go.Proofs.Ytgfpbnafehpopaa.pl
theorem get_data {s : ByteArray} {l : List UInt8} (h : s.data.toList = l) {i : Nat} (hi : i < s.size) : s[i] = l[i]'(by rw [← h, len_eq]; exact hi) := by
  subst h; rfl
def notRagged (s : ByteArray) : Prop := s.size = 0 ∨ ∃ (h0 : 0 < s.size), ¬ s[0] = 32 ∧ ¬ s[s.size - 1] = 32
theorem fold_ragged {s : ByteArray} (h : validT s.data.toList = true) : notRagged (foldB s) := by
  have hd : (foldB s).data.toList = Lib.join (wordsL s.data.toList) [32] := by rw [foldB_ok h, bs_data]
  have key : ∀ (l : List UInt8) (hl : 0 < l.length), l = Lib.join (wordsL s.data.toList) [32] → ¬ l[0] = 32 := by
    intro l hl e
    cases l with
    | nil => simp at hl
    | cons c r => exact join_head (wordsL_good _) e.symm
  have key2 : ∀ (l : List UInt8) (n : Nat) (hl : n < l.length), n + 1 = l.length → l = Lib.join (wordsL s.data.toList) [32] → ¬ l[n] = 32 := by
    intro l n hl hn e
    apply join_last (wordsL_good s.data.toList)
    rw [← e, List.getLast?_eq_getElem?, show l.length - 1 = n from by omega, List.getElem?_eq_getElem hl]
  by_cases h0 : (foldB s).size = 0
  · exact .inl h0
  · refine .inr ⟨by omega, ?_, ?_⟩
    · rw [get_data rfl]
      exact key _ (by rw [len_eq]; omega) hd
    · rw [get_data rfl]
      exact key2 _ _ _ (by rw [len_eq]; omega) hd
end Go.Proofs.Ytgfpbnafehpopaa.pl
namespace Go.Proofs.Ytgfpbnafehpopaa
open Go.RowKit
set_option maxRecDepth 100000

theorem equalTexts_same (l : List ByteArray) (va vb : Value) (w : World) (hA : RStrs w va l) (hB : RStrs w vb l) (hl : l.length ≤ 2000000) :
    Calls Try.prog 17 #[va, vb] w fun e w' => e = .returned (.bool true) ∧ Below w.heap.size w w' :=
  (equalTexts_any l l va vb w hA hB hl).mono fun e w' ⟨h1, h2⟩ => ⟨by rw [h1]; simp, h2⟩

end Go.Proofs.Ytgfpbnafehpopaa
