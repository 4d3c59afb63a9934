/- Contracts: FoldText of both sides. -/
import Derived.Test.YtoeejepamlnkkaaWords
import Derived.Test.YtoeejepamlnkkaaJoin
import Derived.Test.YtoeejepamlnkkaaPlainF
import Derived.Test.YtoeejepamlnkkaaShelf
namespace Go.Proofs.Ytoeejepamlnkkaa
open Go.RowKit
set_option maxRecDepth 100000

/-- strings.Join of a slice of strings that the call made -/
theorem joinOwn (B : Nat) (l : List ByteArray) (sep : ByteArray) (v : Value) (w : World) (h : OStrs B w v l) (hl : l.length ≤ 2000000) (hsz : (pl.joinB l sep).size ≤ 1000000000000) :
    Calls Try.prog 48 #[v, .string sep] w fun e w' => e = .returned (.string (pl.joinB l sep)) ∧ Below w.heap.size w w' := by
  have hown := h
  rcases h.2 with ⟨rfl, hn⟩ | ⟨g, cap, cur, rfl, hB, hg, hle, hm, hs, htake⟩
  · have hl0 : l = [] := List.length_eq_zero_iff.1 hn
    subst hl0
    refine (Try.strings_Join_none none 0 sep w).mono ?_
    rintro e w' ⟨rfl, rfl⟩
    exact ⟨rfl, Below.refl _ _⟩
  · refine (Try.strings_Join g 0 cap l sep w (fun j x hx => ?_) (Array.getElem?_eq_some_iff.1 hg).1 (by omega) hle (Nat.le_trans (show _ ≤ 1000000000000 from hsz) (by omega))).mono ?_
    · have hj : j < l.length := by
        rcases Nat.lt_or_ge j l.length with h1 | h1
        · exact h1
        · rw [List.getElem?_eq_none h1] at hx; cases hx
      rw [Nat.zero_add, World.ownsRow.cellAt hown j (by omega), List.getElem?_map, hx]
      rfl
    · rintro e w' ⟨rfl, hb⟩
      exact ⟨rfl, hb⟩

theorem iFoldText_any (s : ByteArray) (w : World) (hs : s.size ≤ maxLen) :
    Calls Try.prog 22 #[.string s] w fun e w' => e = .returned (.string (pl.foldB s)) ∧ Below w.heap.size w w' := by
  have hfs : (pl.joinB (pl.wordsOf s) ⟨#[32]⟩).size ≤ 1000000000000 := Nat.le_trans (pl.foldB_size120 s) (by omega)
  have hL : (pl.wordsOf s).length ≤ 2000000 := by have := pl.wordsOf_len s; omega
  have hf := Lib.hid (show pl.foldB s = pl.joinB (pl.wordsOf s) ⟨#[32]⟩ from rfl)
  go_enter Try.func22, Try.ntmps22
  go_wp2_with fail
  refine (iWordsOf_any _ _ hs).mono ?_
  rintro e w1 ⟨v, rfl, hown, hb1⟩
  go_wp2_with fail
  refine (joinOwn _ _ _ _ _ hown hL hfs).mono ?_
  rintro e w2 ⟨rfl, hb2⟩
  go_wp2_with fail
  go_ret
  exact ⟨by rw [hf.out]; rfl, hb1.trans (hb2.mono hb1.size)⟩
end Go.Proofs.Ytoeejepamlnkkaa
