/- Contracts: FoldText of both sides. -/
import Derived.Test.YtgfpbnafehpopaaWords
import Derived.Test.YtgfpbnafehpopaaJoin
import Derived.Test.YtgfpbnafehpopaaPlainF
import Derived.Test.YtgfpbnafehpopaaShelf
namespace Go.Proofs.Ytgfpbnafehpopaa
open Go.RowKit
set_option maxRecDepth 100000

/-- strings.Join of a slice of strings that the call made -/
theorem joinOwn (B : Nat) (l : List ByteArray) (sep : ByteArray) (v : Value) (w : World) (h : OStrs B w v l) (hl : l.length ≤ 2000000) (hsz : (pl.joinB l sep).size ≤ 1000000000000) :
    Calls Try.prog 82 #[v, .string sep] w fun e w' => e = .returned (.string (pl.joinB l sep)) ∧ Below w.heap.size w w' := by
  have hown := h
  rcases h.2 with ⟨rfl, hn⟩ | ⟨g, cap, cur, rfl, hB, hg, hle, hm, hs, htake⟩
  · have hl0 : l = [] := List.length_eq_zero_iff.1 hn
    subst hl0
    refine (Try.strings_Join_none none 0 sep w).mono ?_
    rintro e w' ⟨rfl, rfl⟩
    exact ⟨rfl, Below.refl _ _⟩
  · refine (Try.strings_Join g 0 cap l sep w (fun j x hx => ?_) (Array.getElem?_eq_some_iff.1 hg).1 (by omega) hle (Nat.le_trans (show _ ≤ 1000000000000 from hsz) (by omega))).mono ?_
    · have hj : j < l.length := by
        rcases Nat.lt_or_ge j l.length with h1 | h1
        · exact h1
        · rw [List.getElem?_eq_none h1] at hx; cases hx
      rw [Nat.zero_add, World.ownsRow.cellAt hown j (by omega), List.getElem?_map, hx]
      rfl
    · rintro e w' ⟨rfl, hb⟩
      exact ⟨rfl, hb⟩

end Go.Proofs.Ytgfpbnafehpopaa
