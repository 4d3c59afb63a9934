/- Plain mathematics: changes that are valid, and what they make of valid lines. -/
import Derived.Test.YtckfpneooknifaaChO
import Derived.Test.YtckfpneooknifaaLinesV
namespace Go.Proofs.Ytckfpneooknifaa.pl
set_option linter.unusedVariables false
def chOK (c : Ch) : Bool := inR c.1 0 2 && validT c.2.data.toList
def chTo (cs : List Ch) (k : Nat) : Prop := ∀ i, i < k → chOK (nthH cs i) = true
theorem chTo_zero (cs : List Ch) : chTo cs 0 := fun i h => absurd h (by omega)
theorem chTo_succ {cs : List Ch} {k : Nat} (h : chTo cs k) (hc : chOK (nthH cs k) = true) : chTo cs (k + 1) := by
  intro i hi
  by_cases e : i = k
  · subst e; exact hc
  · exact h i (by omega)
def vCh (cs : List Ch) : Bool := cs.all chOK && decide (cs.length ≤ 40)
theorem vCh_all {cs : List Ch} (h : chTo cs cs.length) : vCh cs = decide (cs.length ≤ 40) := by
  unfold vCh
  have : cs.all chOK = true := by
    rw [List.all_eq_true]
    intro c hc
    obtain ⟨i, hi, rfl⟩ := List.getElem_of_mem hc
    rw [← nthH_eq hi]; exact h i hi
  rw [this]; rfl
theorem vCh_bad {cs : List Ch} {k : Nat} (hk : k < cs.length) (hc : chOK (nthH cs k) = false) : vCh cs = false := by
  unfold vCh
  have : cs.all chOK = false := by
    rw [List.all_eq_false]
    exact ⟨cs[k], List.getElem_mem _, by rw [← nthH_eq hk]; simp [hc]⟩
  rw [this]; rfl
theorem vCh_long {cs : List Ch} (h : 40 < cs.length) : vCh cs = false := by
  unfold vCh
  rw [decide_eq_false (p := cs.length ≤ 40) (by omega)]; simp
theorem vCh_parts {cs : List Ch} (h : vCh cs = true) : cs.length ≤ 40 ∧ chTo cs cs.length := by
  unfold vCh at h
  rw [Bool.and_eq_true, List.all_eq_true, decide_eq_true_eq] at h
  refine ⟨h.2, fun i hi => ?_⟩
  rw [nthH_eq hi]; exact h.1 _ (List.getElem_mem _)
theorem chOK_parts {c : Ch} (h : chOK c = true) : 0 ≤ c.1 ∧ c.1 ≤ 2 ∧ validT c.2.data.toList = true := by
  unfold chOK inR at h
  rw [Bool.and_eq_true, Bool.and_eq_true, decide_eq_true_eq, decide_eq_true_eq] at h
  exact ⟨h.1.1, h.1.2, h.2⟩
theorem vCh_at {cs : List Ch} (h : vCh cs = true) {i : Nat} (hi : i < cs.length) : 0 ≤ (nthH cs i).1 ∧ (nthH cs i).1 ≤ 2 ∧ (nthH cs i).2.size ≤ 120 ∧ validT (nthH cs i).2.data.toList = true := by
  have := chOK_parts ((vCh_parts h).2 i hi)
  exact ⟨this.1, this.2.1, validT_size this.2.2, this.2.2⟩
theorem chOK_turn {c : Ch} : chOK (turnC c) = chOK c := by
  obtain ⟨k, l⟩ := c
  show (inR (turnK k) 0 2 && validT l.data.toList) = (inR k 0 2 && validT l.data.toList)
  have : inR (turnK k) 0 2 = inR k 0 2 := by
    unfold turnK
    by_cases h1 : k = 1
    · subst h1; decide
    · rw [if_neg h1]
      by_cases h2 : k = 2
      · subst h2; decide
      · rw [if_neg h2]
  rw [this]
theorem vCh_turn (cs : List Ch) : vCh (cs.map turnC) = vCh cs := by
  unfold vCh
  rw [List.length_map, List.all_map]
  have : (chOK ∘ turnC) = chOK := by funext c; exact chOK_turn
  rw [this]
/-- the changes that take these back -/
def backR (cs : List Ch) : List Ch := if vCh cs = true then cs.map turnC else []
theorem backR_yes {cs : List Ch} (h : vCh cs = true) : backR cs = cs.map turnC := by unfold backR; rw [if_pos h]
theorem backR_no {cs : List Ch} (h : vCh cs = false) : backR cs = [] := by unfold backR; rw [if_neg (by rw [h]; simp)]
theorem backR_len (cs : List Ch) : (backR cs).length ≤ 40 := by
  cases h : vCh cs with
  | true => rw [backR_yes h, List.length_map]; exact (vCh_parts h).1
  | false => rw [backR_no h]; exact Nat.zero_le _
theorem backR_twice {cs : List Ch} (h : vCh cs = true) : backR (backR cs) = cs := by
  rw [backR_yes h, backR_yes (by rw [vCh_turn]; exact h), turnC_twice]
theorem turn_next {cs : List Ch} {k : Nat} (h : k < cs.length) : (cs.take (k + 1)).map turnC = (cs.take k).map turnC ++ [(turnK (nthH cs k).1, (nthH cs k).2)] := by
  rw [List.take_succ_eq_append_getElem h, List.map_append, nthH_eq h]; rfl
end Go.Proofs.Ytckfpneooknifaa.pl
