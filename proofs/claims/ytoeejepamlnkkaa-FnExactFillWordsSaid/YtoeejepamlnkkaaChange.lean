/- Contracts: the changes of lines, and changeLines with each pair of them. -/
import Derived.Test.YtoeejepamlnkkaaPlainD
import Derived.Test.YtoeejepamlnkkaaLines
import Derived.Test.YtoeejepamlnkkaaTabs
import Derived.Test.YtoeejepamlnkkaaMark
import Derived.Laws.CopyOwn
import Derived.LoopN
namespace Go.Proofs.Ytoeejepamlnkkaa
open Go.RowKit
set_option maxRecDepth 100000

theorem putOn_any (m : Nat) (s : ByteArray) (w : World) (hs : s.size ≤ 1048576) (hm : m ≤ 100000) :
    Calls Try.prog 47 #[.int .i64 m, .string s] w fun e w' => e = .returned (.string (pl.ptS m s)) ∧ Below w.heap.size w w' := by
  by_cases h : s.size = 0
  · have h0 : s.toList.isEmpty = true := pl.empty_of h
    have he : Hid (pl.ptS m s = ⟨#[]⟩) := Lib.hid (pl.ptS_yes h)
    clear h
    go_enter Try.func47, Try.ntmps47
    go_wp2_with fail
    go_ret
    exact ⟨by rw [he.out]; rfl, Below.refl _ _⟩
  · have h0 : s.toList.isEmpty = false := pl.nonempty_of h
    have he := Lib.hid (pl.ptS_no (m := m) h)
    have hsz := pl.spB_size m
    clear h
    obtain ⟨t, HT⟩ : ∃ t, Hid (pl.spB m = t) := ⟨_, Lib.hid rfl⟩
    rw [HT.out] at hsz
    go_enter Try.func47, Try.ntmps47
    go_wp2_with fail
    refine (ispaces_at _ m (by first | rfl | go_num) _ hm).mono ?_
    rintro e w' ⟨rfl, hb⟩
    rw [HT.out]
    go_wp2_with fail
    go_ret
    exact ⟨by rw [he.out, HT.out]; rfl, hb⟩

theorem own_row {B G n : Nat} {w : World} {xs : List Value} (h : w.ownsRow B 9 1 (.slice (some ⟨G, 0, none⟩) n n) n xs) : ∃ cur : List Value, w.heap[G]? = some (.cells cur.toArray 9 (0, 0)) ∧ cur.length = n := by
  rcases h.2 with ⟨hv, _⟩ | ⟨g, cap, cur, hv, hB, hg, hle, hm, hs, htake⟩
  · cases hv
  · simp only [Value.slice.injEq, Option.some.injEq, Addr.mk.injEq] at hv
    obtain ⟨⟨rfl, _, _⟩, _, rfl⟩ := hv
    exact ⟨cur.toList, by rw [hg], by simpa using hs⟩
theorem own_back {B G n : Nat} {w : World} {l : List ByteArray} {cur : List Value} (hg : w.heap[G]? = some (.cells (splice cur 0 (l.map Value.string)).toArray 9 (0, 0))) (hc : cur.length = n) (hl : l.length = n) (hB : B ≤ G) (hn : n ≤ maxLen) :
    w.ownsRow B 9 1 (.slice (some ⟨G, 0, none⟩) n n) n (l.map Value.string) := by
  have e : splice cur 0 (l.map Value.string) = l.map Value.string := by
    unfold splice
    rw [List.take_zero, List.nil_append, List.drop_of_length_le (by simp; omega), List.append_nil]
  rw [e] at hg
  exact ⟨by simp [hl], .inr ⟨G, n, _, rfl, hB, hg, Nat.le_refl _, hn, by simp [hl], by simp [List.take_of_length_le, hl]⟩⟩
theorem own_below {B n : Nat} {w w' : World} {v : Value} {xs : List Value} (h : w.ownsRow B 9 1 v n xs) (hb : Below w.heap.size w w') : w'.ownsRow B 9 1 v n xs := by
  refine ⟨h.1, ?_⟩
  rcases h.2 with hx | ⟨g, cap, cur, hv, hB, hg, rest⟩
  · exact .inl hx
  · exact .inr ⟨g, cap, cur, hv, hB, by rw [hb.block g (Array.getElem?_eq_some_iff.1 hg).1]; exact hg, rest⟩
theorem RStrs.src {w wr : World} {a : Option Addr} {cap n : Nat} {l : List ByteArray} (h : RStrs w (.slice a n cap) l) (hb : Below w.heap.size w wr) (hpos : 0 < (l.map Value.string).length) :
    ∃ ad, a = some ad ∧ ∀ j v, (l.map Value.string)[j]? = some v → wr.cell? (ad.add j) = some v := by
  rcases h with ⟨hz, _⟩ | ⟨_, b1, o1, c1, hvv, hb1, hc1⟩
  · rw [hz] at hpos; simp at hpos
  · simp only [Value.slice.injEq] at hvv
    obtain ⟨rfl, _, rfl⟩ := hvv
    refine ⟨_, rfl, fun j v hj => ?_⟩
    have hadd : (⟨b1, o1, none⟩ : Addr).add j = ⟨b1, o1 + j, none⟩ := by unfold Addr.add; split <;> simp_all
    rw [hadd]
    obtain ⟨hl, rfl⟩ := List.getElem?_eq_some_iff.1 hj
    rw [List.length_map] at hl
    rw [hb.cell (p := ⟨b1, o1 + j, none⟩) hb1, hc1 j hl, List.getElem_map, nth_eq hl]

end Go.Proofs.Ytoeejepamlnkkaa
