/- Slices of strings with their room; strings.Join of a piece of a slice. -/
import Derived.Test.YtadlelcckalcoaaArgs
import Derived.Test.YtadlelcckalcoaaLinesV
import Derived.Test.YtadlelcckalcoaaShelf
import Derived.Test.YtadlelcckalcoaaPkB
namespace Go.Proofs.Ytadlelcckalcoaa
open Go.RowKit
set_option maxRecDepth 100000

/-- a slice of strings that can be read, and its room -/
def LStrs (w : World) (v : Value) (l : List ByteArray) : Prop := RStrs w v l ∧ ∃ a cap, v = .slice a l.length cap ∧ l.length ≤ cap
theorem OStrs.lreads {B : Nat} {w : World} {v : Value} {l : List ByteArray} (h : OStrs B w v l) : LStrs w v l := by
  refine ⟨h.reads, ?_⟩
  rcases h.2 with ⟨hv, hn⟩ | ⟨g, cap, cur, hv, hB, hg, hle, _⟩
  · exact ⟨none, 0, by rw [hv, hn], by omega⟩
  · exact ⟨_, cap, hv, hle⟩
theorem LStrs.below {C : Nat} {w w' : World} {v : Value} {l : List ByteArray} (h : LStrs w v l) (hC : w.heap.size ≤ C) (hb : Below C w w') : LStrs w' v l := ⟨h.1.below hC hb, h.2⟩

/-- strings.Join of a piece of a slice -/
theorem joinAt (b o cap n f k : Nat) (l : List ByteArray) (sep : ByteArray) (w : World) (h : RStrs w (.slice (some ⟨b, o, none⟩) n cap) l) (hn : n = l.length) (hcap : n ≤ cap) (hk : 0 < k) (hfk : f + k ≤ n) (hl : l.length ≤ 2000000)
    (hsz : (pl.joinB ((l.drop f).take k) sep).size ≤ 1000000000000) :
    Calls Try.prog 104 #[.slice (some ⟨b, o + f, none⟩) k (cap - f), .string sep] w fun e w' => e = .returned (.string (pl.joinB ((l.drop f).take k) sep)) ∧ Below w.heap.size w w' := by
  rcases h with ⟨hz, _⟩ | ⟨hpos, b1, o1, c1, hvv, hb1, hc1⟩
  · rw [hz] at hn; simp at hn; omega
  · simp only [Value.slice.injEq] at hvv
    obtain ⟨hbo, _, _⟩ := hvv
    simp only [Option.some.injEq, Addr.mk.injEq, and_true] at hbo
    obtain ⟨rfl, rfl⟩ := hbo
    have hkl : ((l.drop f).take k).length = k := by rw [List.length_take, List.length_drop]; omega
    have hj := Try.strings_Join b (o + f) (cap - f) ((l.drop f).take k) sep w (fun j x hx => ?_) hb1 (by omega) (by omega) (Nat.le_trans (show _ ≤ 1000000000000 from hsz) (by omega))
    · rw [hkl] at hj
      refine hj.mono ?_
      rintro e w' ⟨rfl, hb⟩
      exact ⟨rfl, hb⟩
    · have hjl : j < k := by
        rcases Nat.lt_or_ge j k with h1 | h1
        · exact h1
        · rw [List.getElem?_eq_none (by omega)] at hx; cases hx
      have e : x = nth l (f + j) := by
        rw [List.getElem?_take_of_lt hjl, List.getElem?_drop, List.getElem?_eq_getElem (by omega)] at hx
        rw [nth_eq (by omega)]
        exact (Option.some.inj hx).symm
      rw [Nat.add_assoc, hc1 (f + j) (by omega), e]

theorem RStrs.pre {w : World} {b o n cap k : Nat} {l : List ByteArray} (h : RStrs w (.slice (some ⟨b, o, none⟩) n cap) l) (hk : k ≤ l.length) : RStrs w (.slice (some ⟨b, o, none⟩) k cap) (l.take k) := by
  by_cases h0 : k = 0
  · subst h0; exact .inl ⟨rfl, _, _, rfl⟩
  · rcases h with ⟨hz, _⟩ | ⟨hpos, b1, o1, c1, hvv, hb1, hc1⟩
    · rw [hz] at hk; simp at hk; omega
    · simp only [Value.slice.injEq] at hvv
      obtain ⟨hbo, _, _⟩ := hvv
      simp only [Option.some.injEq, Addr.mk.injEq, and_true] at hbo
      obtain ⟨rfl, rfl⟩ := hbo
      have hkl : (l.take k).length = k := by rw [List.length_take]; omega
      refine .inr ⟨by omega, _, _, cap, by rw [hkl], hb1, fun i hi => ?_⟩
      rw [hkl] at hi
      rw [hc1 i (by omega), nth_eq (by omega), nth_eq (by omega), List.getElem_take]
theorem joinPre (b o cap n k : Nat) (l : List ByteArray) (sep : ByteArray) (w : World) (h : RStrs w (.slice (some ⟨b, o, none⟩) n cap) l) (hn : n = l.length) (hcap : n ≤ cap) (hk : k ≤ n) (hl : l.length ≤ 2000000)
    (hsz : (pl.joinB (l.take k) sep).size ≤ 1000000000000) :
    Calls Try.prog 104 #[.slice (some ⟨b, o, none⟩) k cap, .string sep] w fun e w' => e = .returned (.string (pl.joinB (l.take k) sep)) ∧ Below w.heap.size w w' := by
  by_cases h0 : k = 0
  · subst h0
    refine (Try.strings_Join_none _ _ sep w).mono ?_
    rintro e w' ⟨rfl, rfl⟩
    exact ⟨rfl, Below.refl _ _⟩
  · have := joinAt b o cap n 0 k l sep w h hn hcap (by omega) (by omega) hl (by rw [List.drop_zero]; exact hsz)
    rw [List.drop_zero] at this
    exact this
/-- strings.Join of a slice that can be read -/
theorem joinAll (l : List ByteArray) (sep : ByteArray) (v : Value) (w : World) (h : LStrs w v l) (h0 : 0 < l.length) (hl : l.length ≤ 2000000) (hsz : (pl.joinB l sep).size ≤ 1000000000000) :
    Calls Try.prog 104 #[v, .string sep] w fun e w' => e = .returned (.string (pl.joinB l sep)) ∧ Below w.heap.size w w' := by
  obtain ⟨hr, a, cap, rfl, hcap⟩ := h
  have hr2 := hr
  rcases hr2 with ⟨hz, _⟩ | ⟨hpos, b1, o1, c1, hvv, hb1, hc1⟩
  · rw [hz] at h0; simp at h0
  · simp only [Value.slice.injEq] at hvv
    obtain ⟨rfl, _, rfl⟩ := hvv
    have h := joinAt b1 o1 cap l.length 0 l.length l sep w hr rfl hcap h0 (by omega) hl (by rw [List.drop_zero, List.take_length]; exact hsz)
    rw [List.drop_zero, List.take_length] at h
    exact h
end Go.Proofs.Ytadlelcckalcoaa
