/- Plain facts: how many ways there are. -/
import Derived.Test.YtfajllfedhifkaaPlainX
import Derived.Test.YtfajllfedhifkaaPlainB
import Derived.Test.YtfajllfedhifkaaLawL
namespace Go.Proofs.Ytfajllfedhifkaa
open Go.RowKit
set_option maxRecDepth 100000
namespace pl
theorem szJ_pre (a : List ByteArray) : ∀ (n : Nat) (g : List ByteArray), g.length = n → szJ g ≤ szJ (a ++ g)
  | 0, g, h => by
    have : g = [] := List.length_eq_zero_iff.1 h
    subst this
    have e : szJ [] = 0 := by unfold szJ; rw [joinB_nil]; rfl
    omega
  | n + 1, g, h => by
    obtain ⟨d, c, rfl⟩ : ∃ d c, g = d ++ [c] := by
      have hg : g ≠ [] := by intro e; subst e; simp at h
      exact ⟨g.dropLast, g.getLast hg, (List.dropLast_concat_getLast hg).symm⟩
    rw [List.length_append] at h
    have hd : d.length = n := by simpa using h
    have ih := szJ_pre a n d hd
    rw [← List.append_assoc]
    by_cases e : d = []
    · subst e
      rw [List.nil_append, szJ_one, List.append_nil]
      by_cases e2 : a = []
      · subst e2; rw [List.nil_append, szJ_one]; omega
      · rw [szJ_snoc e2]; omega
    · rw [szJ_snoc e, szJ_snoc (by intro e2; exact e (List.append_eq_nil_iff.1 e2).2)]; omega
theorem szJ_mid (a g b : List ByteArray) : szJ g ≤ szJ (a ++ g ++ b) := Nat.le_trans (szJ_pre a g.length g rfl) (szJ_mono b (a ++ g))
theorem szJ_part {gs : Gs} {g : List ByteArray} (h : g ∈ gs) : szJ g ≤ szJ gs.flatten := by
  obtain ⟨a, b, rfl⟩ := List.append_of_mem h
  rw [List.flatten_append, List.flatten_cons, ← List.append_assoc]
  exact szJ_mid _ _ _
theorem way_short {wd : Int} {l : List ByteArray} {w : Gs} (h : isWay wd l w) : shortAll l wd = true := by
  obtain ⟨h1, h2, h3⟩ := h
  refine shortAll_yes (fun i hi => ?_)
  have hm : nth l i ∈ w.flatten := by rw [h1, nth_eq hi]; exact List.getElem_mem hi
  obtain ⟨g, hg, hx⟩ := List.mem_flatten.1 hm
  have hf : fitL wd g = true := (List.all_eq_true.1 h3) g hg
  unfold fitL at hf
  rw [decide_eq_true_eq] at hf
  obtain ⟨j, hj, he⟩ := List.getElem_of_mem hx
  have := size_szJ hj
  rw [nth_eq hj, he] at this
  omega
theorem greedy_way {wd : Int} {l : List ByteArray} (h : shortAll l wd = true) : isWay wd l (greedy wd l l.length) := by
  have hs := shortAll_parts h
  refine ⟨by rw [show greedy wd l l.length = grW (opG wd) l l.length from rfl, grW_flatten _ _ _ (Nat.le_refl _), List.take_length], grW_full _ _ _, ?_⟩
  unfold fitG
  rw [List.all_eq_true]
  intro g hg
  exact decide_eq_true (greedy_fits hs l.length (Nat.le_refl _) g hg)
theorem wF_fit {wd : Int} {l : List ByteArray} (hv : vWords l = true) (hw : inR wd 1 120 = true) : fitA l wd = decide (0 < wF wd l) := by
  unfold fitA
  rw [hv, hw, Bool.and_true, Bool.and_true, ← waysN_eq]
  by_cases h : shortAll l wd = true
  · rw [h]
    obtain ⟨b, hb, he⟩ := way_bits l _ (greedy_way h)
    have hf : fitG wd (wayB b l l.length) = true := by rw [he]; exact (greedy_way h).2.2
    symm
    exact decide_eq_true (cntF_some (p := fun b => fitG wd (wayB b l l.length)) hf _ hb)
  · have h' : shortAll l wd = false := by simpa using h
    rw [h']
    symm
    apply decide_eq_false
    have : waysN wd l = 0 := by
      refine cntF_none _ (fun b _ => ?_)
      cases hf : fitG wd (wayB b l l.length) with
      | false => rfl
      | true => exact absurd (way_short (wayB_way b l hf)) h
    omega
theorem wF_most (wd : Int) (l : List ByteArray) : wF wd l ≤ 2 ^ (l.length - 1) := by rw [← waysN_eq]; exact cntF_le _ _
theorem wF_all {wd : Int} {l : List ByteArray} (h : (szJ l : Int) ≤ wd) : wF wd l = 2 ^ (l.length - 1) := by
  rw [← waysN_eq]
  refine cntF_all _ (fun b _ => ?_)
  unfold fitG
  rw [List.all_eq_true]
  intro g hg
  refine decide_eq_true ?_
  have h1 : (wayB b l l.length).flatten = l := by
    rw [show wayB b l l.length = grW (opB b) l l.length from rfl, grW_flatten _ _ _ (Nat.le_refl _), List.take_length]
  have := szJ_part hg
  rw [h1] at this
  omega
end pl
end Go.Proofs.Ytfajllfedhifkaa
