/- Plain facts: there is a least ragged way. -/
import Derived.Test.YtfajllfedhifkaaEvenW
import Derived.Test.YtfajllfedhifkaaPlainE
namespace Go.Proofs.Ytfajllfedhifkaa
open Go.RowKit
set_option maxRecDepth 100000
namespace pl
theorem binv_exists (wd : Int) (l : List ByteArray) : ∀ m, ∃ best least, BInv wd l m best least
  | 0 => ⟨_, _, binv_start wd l⟩
  | m + 1 => by
    obtain ⟨best, least, h⟩ := binv_exists wd l m
    cases hf : fitG wd (wayB m l l.length) with
    | false => exact ⟨_, _, binv_skip h hf⟩
    | true =>
      have hw := wayB_way m l hf
      by_cases hl : least < 0
      · exact ⟨_, _, binv_take h hf (.inl hl)⟩
      · have hb : isWay wd l best := by
          rcases h with ⟨h1, _, _⟩ | ⟨_, h2, _⟩
          · omega
          · exact h2
        rcases Int.lt_trichotomy (costG wd best) (costG wd (wayB m l l.length)) with h1 | h1 | h1
        · exact ⟨_, _, binv_keep h hl (.inl h1)⟩
        · rcases fuller_total best _ l hb hw with h2 | h2 | h2
          · exact ⟨_, _, binv_keep h hl (.inr ⟨h1, .inl h2⟩)⟩
          · exact ⟨_, _, binv_keep h hl (.inr ⟨h1, .inr h2⟩)⟩
          · exact ⟨_, _, binv_take h hf (.inr (.inr ⟨h1.symm, .inr h2⟩))⟩
        · exact ⟨_, _, binv_take h hf (.inr (.inl h1))⟩
theorem best_exists {wd : Int} {l : List ByteArray} (h : shortAll l wd = true) : ∃ e, Best wd l e := by
  obtain ⟨best, least, hb⟩ := binv_exists wd l (2 ^ (l.length - 1))
  by_cases hl : least < 0
  · exact absurd (greedy_way h) (binv_none hb hl _)
  · exact ⟨best, binv_done hb hl⟩
theorem fitA_short {wd : Int} {l : List ByteArray} (h : fitA l wd = true) : shortAll l wd = true := shortAll_yes (fitA_parts h).1
theorem evenR_best {wd : Int} {l : List ByteArray} (h : fitA l wd = true) : ∃ e, Best wd l e ∧ evenR l wd = e.map jline := by
  obtain ⟨e, he⟩ := best_exists (fitA_short h)
  exact ⟨e, he, evenR_yes h he⟩
theorem evenR_len (l : List ByteArray) (wd : Int) : (evenR l wd).length ≤ l.length := by
  cases h : fitA l wd with
  | false => rw [evenR_no h]; simp
  | true =>
    obtain ⟨e, he, h2⟩ := evenR_best h
    rw [h2, List.length_map]
    exact flat_len he.1.1 he.1.2.1
end pl
end Go.Proofs.Ytfajllfedhifkaa
