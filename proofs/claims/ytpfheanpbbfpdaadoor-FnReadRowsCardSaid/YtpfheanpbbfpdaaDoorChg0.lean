/- Lines that are changed one behind the other in a slice of the call's own. -/
import Derived.Test.YtpfheanpbbfpdaaDoorMark
import Derived.Laws.CopyOwn
import Derived.LoopN
namespace Go.Proofs.YtpfheanpbbfpdaaDoor
open Go.RowKit
set_option maxRecDepth 100000

namespace pl
/-- the first k lines changed, the others as they were -/
def chg (g : ByteArray → ByteArray) (l l' : List ByteArray) (k : Nat) : Prop := l'.length = l.length ∧ (∀ i, i < k → i < l.length → nth l' i = g (nth l i)) ∧ ∀ i, k ≤ i → i < l.length → nth l' i = nth l i
theorem chg_zero (g : ByteArray → ByteArray) (l : List ByteArray) : chg g l l 0 := ⟨rfl, fun i h => absurd h (by omega), fun _ _ _ => rfl⟩
theorem chg_at {g : ByteArray → ByteArray} {l l' : List ByteArray} {k : Nat} (h : chg g l l' k) (hk : k < l.length) : nth l' k = nth l k := h.2.2 k (Nat.le_refl _) hk
theorem chg_succ {g : ByteArray → ByteArray} {l l' : List ByteArray} {k : Nat} (h : chg g l l' k) (hk : k < l.length) (y : ByteArray) {x : ByteArray} (hx : x = g (nth l k)) : chg g l ((l'.set k y).set k x) (k + 1) := by
  obtain ⟨h1, h2, h3⟩ := h
  refine ⟨by simp [h1], fun i hi hl => ?_, fun i hi hl => ?_⟩
  · by_cases e : i = k
    · subst e; rw [nth_set_same (by simp [h1, hl]), hx]
    · rw [nth_set_other (by simp [h1, hl]) e, nth_set_other (by simp [h1, hl]) e]; exact h2 i (by omega) hl
  · rw [nth_set_other (by simp [h1, hl]) (by omega), nth_set_other (by simp [h1, hl]) (by omega)]; exact h3 i (by omega) hl
theorem chg_all {g : ByteArray → ByteArray} {l l' : List ByteArray} (h : chg g l l' l.length) : l' = l.map g := by
  apply nth_ext (by simp [h.1])
  intro i hi
  have hi' : i < l.length := by rw [← h.1]; exact hi
  rw [h.2.1 i hi' hi', nth_eq hi', nth_eq (by simp [hi'])]; simp
theorem chg_one {g : ByteArray → ByteArray} {l l' : List ByteArray} {k : Nat} (h : chg g l l' k) (hk : k < l.length) {x : ByteArray} (hx : x = g (nth l k)) : chg g l (l'.set k x) (k + 1) := by
  obtain ⟨h1, h2, h3⟩ := h
  refine ⟨by simp [h1], fun i hi hl => ?_, fun i hi hl => ?_⟩
  · by_cases e : i = k
    · subst e; rw [nth_set_same (by omega), hx]
    · rw [nth_set_other (by omega) e]; exact h2 i (by omega) hl
  · rw [nth_set_other (by omega) (by omega)]; exact h3 i (by omega) hl
end pl

theorem own_row {B G n : Nat} {w : World} {xs : List Value} (h : w.ownsRow B 9 1 (.slice (some ⟨G, 0, none⟩) n n) n xs) : ∃ cur : List Value, w.heap[G]? = some (.cells cur.toArray 9 (0, 0)) ∧ cur.length = n := by
  rcases h.2 with ⟨hv, _⟩ | ⟨g, cap, cur, hv, hB, hg, hle, hm, hs, htake⟩
  · cases hv
  · simp only [Value.slice.injEq, Option.some.injEq, Addr.mk.injEq] at hv
    obtain ⟨⟨rfl, _, _⟩, _, rfl⟩ := hv
    exact ⟨cur.toList, by rw [hg], by simpa using hs⟩
theorem own_back {B G n : Nat} {w : World} {l : List ByteArray} {cur : List Value} (hg : w.heap[G]? = some (.cells (splice cur 0 (l.map Value.string)).toArray 9 (0, 0))) (hc : cur.length = n) (hl : l.length = n) (hB : B ≤ G) (hn : n ≤ maxLen) :
    w.ownsRow B 9 1 (.slice (some ⟨G, 0, none⟩) n n) n (l.map Value.string) := by
  have e : splice cur 0 (l.map Value.string) = l.map Value.string := by
    unfold splice
    rw [List.take_zero, List.nil_append, List.drop_of_length_le (by simp; omega), List.append_nil]
  rw [e] at hg
  exact ⟨by simp [hl], .inr ⟨G, n, _, rfl, hB, hg, Nat.le_refl _, hn, by simp [hl], by simp [List.take_of_length_le, hl]⟩⟩
theorem own_below {B n : Nat} {w w' : World} {v : Value} {xs : List Value} (h : w.ownsRow B 9 1 v n xs) (hb : Below w.heap.size w w') : w'.ownsRow B 9 1 v n xs := by
  refine ⟨h.1, ?_⟩
  rcases h.2 with hx | ⟨g, cap, cur, hv, hB, hg, rest⟩
  · exact .inl hx
  · exact .inr ⟨g, cap, cur, hv, hB, by rw [hb.block g (Array.getElem?_eq_some_iff.1 hg).1]; exact hg, rest⟩
theorem RStrs.src {w wr : World} {a : Option Addr} {cap n : Nat} {l : List ByteArray} (h : RStrs w (.slice a n cap) l) (hb : Below w.heap.size w wr) (hpos : 0 < (l.map Value.string).length) :
    ∃ ad, a = some ad ∧ ∀ j v, (l.map Value.string)[j]? = some v → wr.cell? (ad.add j) = some v := by
  rcases h with ⟨hz, _⟩ | ⟨_, b1, o1, c1, hvv, hb1, hc1⟩
  · rw [hz] at hpos; simp at hpos
  · simp only [Value.slice.injEq] at hvv
    obtain ⟨rfl, _, rfl⟩ := hvv
    refine ⟨_, rfl, fun j v hj => ?_⟩
    have hadd : (⟨b1, o1, none⟩ : Addr).add j = ⟨b1, o1 + j, none⟩ := by unfold Addr.add; split <;> simp_all
    rw [hadd]
    obtain ⟨hl, rfl⟩ := List.getElem?_eq_some_iff.1 hj
    rw [List.length_map] at hl
    rw [hb.cell (p := ⟨b1, o1 + j, none⟩) hb1, hc1 j hl, List.getElem_map, nth_eq hl]
end Go.Proofs.YtpfheanpbbfpdaaDoor
