/- Plain facts: the greedy way needs the fewest lines. -/
import Derived.Test.YtfajllfedhifkaaPlainH2
namespace Go.Proofs.Ytfajllfedhifkaa
open Go.RowKit
set_option maxRecDepth 100000
namespace pl
/-- the first word of the next line does not fit into a line -/
def gapG (wd : Int) : Gs → Prop
  | g :: h :: r => wd < (szJ g : Int) + 1 + (nth h 0).size ∧ gapG wd (h :: r)
  | _ => True
theorem gap_grow {wd : Int} {c : List ByteArray} {x : ByteArray} (hc : c ≠ []) : ∀ d : Gs, gapG wd (d ++ [c]) → gapG wd (d ++ [c ++ [x]])
  | [], _ => trivial
  | [g], h => by
    refine ⟨?_, trivial⟩
    have h1 := h.1
    cases c with
    | nil => exact absurd rfl hc
    | cons y t => exact h1
  | g :: k :: d, h => ⟨h.1, gap_grow hc (k :: d) h.2⟩
theorem gap_new {wd : Int} {c : List ByteArray} {x : ByteArray} (hx : wd < (szJ c : Int) + 1 + x.size) : ∀ d : Gs, gapG wd (d ++ [c]) → gapG wd (d ++ [c] ++ [[x]])
  | [], _ => ⟨by simpa [nth] using hx, trivial⟩
  | [g], h => ⟨h.1, by simpa [nth] using hx, trivial⟩
  | g :: k :: d, h => ⟨h.1, gap_new hx (k :: d) h.2⟩
theorem gap_greedy (wd : Int) (l : List ByteArray) : ∀ k, gapG wd (greedy wd l k)
  | 0 => trivial
  | 1 => trivial
  | k + 2 => by
    have ih := gap_greedy wd l (k + 1)
    obtain ⟨d, c, hd, hc⟩ := greedy_snoc wd l (k := k + 1) (by omega)
    rw [hd] at ih
    by_cases hf : (szJ c : Int) + 1 + (nth l (k + 1)).size ≤ wd
    · rw [greedy_more d c hd hf]; exact gap_grow hc d ih
    · rw [greedy_new d c hd hf]; exact gap_new (by omega) d ih
theorem gap_at {wd : Int} : ∀ (gs : Gs) (i : Nat) (a b : List ByteArray), gapG wd gs → gs[i]? = some a → gs[i + 1]? = some b → wd < (szJ a : Int) + 1 + (nth b 0).size
  | [], _, _, _, _, h1, _ => by simp at h1
  | [g], i, _, _, _, _, h2 => by simp at h2
  | g :: k :: r, 0, a, b, h, h1, h2 => by
    simp at h1 h2
    subst h1; subst h2
    exact h.1
  | g :: k :: r, i + 1, a, b, h, h1, h2 => gap_at (k :: r) i a b h.2 (by simpa using h1) (by simpa using h2)
/-- a way that is behind needs at least as many lines -/
theorem gap_min {wd : Int} : ∀ (G E : Gs) (u : List ByteArray), gapG wd G → (∀ g ∈ G, g ≠ []) → (∀ e ∈ E, (szJ e : Int) ≤ wd) → u ++ G.flatten = E.flatten → G.length ≤ E.length
  | [], _, _, _, _, _, _ => by simp
  | g :: G, [], u, _, hne, _, h => by
    rw [List.flatten_cons] at h
    have := (List.append_eq_nil_iff.1 (List.append_eq_nil_iff.1 h).2).1
    exact absurd this (hne g (by simp))
  | g :: G, a :: E, u, hg, hne, hf, h => by
    rw [List.flatten_cons, List.flatten_cons, ← List.append_assoc] at h
    have hgG : gapG wd G := by
      cases G with
      | nil => trivial
      | cons k r => exact hg.2
    rcases List.append_eq_append_iff.1 h with ⟨x, h1, h2⟩ | ⟨x, h1, h2⟩
    · -- a = u ++ g ++ x, G.flatten = x ++ E.flatten
      cases x with
      | nil =>
        have := gap_min G E [] hgG (fun z hz => hne z (List.mem_cons_of_mem _ hz)) (fun z hz => hf z (List.mem_cons_of_mem _ hz)) (by simpa using h2)
        simp only [List.length_cons]; omega
      | cons y t =>
        exfalso
        cases G with
        | nil => simp at h2
        | cons k r =>
          have hk : k ≠ [] := hne k (by simp)
          have hy : nth k 0 = y := by
            cases k with
            | nil => exact absurd rfl hk
            | cons z s =>
              simp at h2
              simp [nth, h2.1]
          have h3 := hg.1
          rw [hy] at h3
          have h4 : szJ (g ++ [y]) ≤ szJ a := by
            have := szJ_mid u (g ++ [y]) t
            rw [h1]
            simpa using this
          rw [szJ_snoc (hne g (by simp))] at h4
          have := hf a (by simp)
          omega
    · have := gap_min G E x hgG (fun z hz => hne z (List.mem_cons_of_mem _ hz)) (fun z hz => hf z (List.mem_cons_of_mem _ hz)) h2.symm
      simp only [List.length_cons]; omega
theorem greedy_min {wd : Int} {l : List ByteArray} {e : Gs} (he : isWay wd l e) : (greedy wd l l.length).length ≤ e.length := by
  refine gap_min _ e [] (gap_greedy wd l l.length) (grW_full _ _ _) (fun g hg => way_sz he g hg) ?_
  rw [List.nil_append, he.1, show greedy wd l l.length = grW (opG wd) l l.length from rfl, grW_flatten _ _ _ (Nat.le_refl _), List.take_length]
end pl
end Go.Proofs.Ytfajllfedhifkaa
