/- Plain mathematics: changes carried out one by one. -/
import Derived.Test.YtckfpneooknifaaPlainCh
namespace Go.Proofs.Ytckfpneooknifaa.pl
set_option linter.unusedVariables false

/-- what lines become by changes -/
def appR (a : List ByteArray) (cs : List Ch) : Option (List ByteArray) :=
  if validLs a = true ∧ vCh cs = true then (app a cs).filter (fun o => decide (o.length ≤ 20)) else none
def appG (a : List ByteArray) (cs : List Ch) : Bool := (appR a cs).isSome
def appD (a : List ByteArray) (cs : List Ch) : List ByteArray := (appR a cs).getD []
theorem appR_bad {a : List ByteArray} {cs : List Ch} (h : validLs a = false ∨ vCh cs = false) : appR a cs = none := by
  unfold appR
  rw [if_neg]
  rintro ⟨h1, h2⟩
  rcases h with h | h
  · rw [h] at h1; cases h1
  · rw [h] at h2; cases h2
theorem appR_none {a : List ByteArray} {cs : List Ch} (h : app a cs = none) : appR a cs = none := by
  unfold appR
  split
  · rw [h]; rfl
  · rfl
theorem appR_long {a o : List ByteArray} {cs : List Ch} (h : app a cs = some o) (hl : 20 < o.length) : appR a cs = none := by
  unfold appR
  split
  · rw [h, Option.filter_some, if_neg (by simpa using hl)]
  · rfl
theorem appR_some {a o : List ByteArray} {cs : List Ch} (h1 : validLs a = true) (h2 : vCh cs = true) (h : app a cs = some o) (hl : o.length ≤ 20) : appR a cs = some o := by
  unfold appR
  rw [if_pos ⟨h1, h2⟩, h, Option.filter_some, if_pos (by simpa using hl)]
theorem appD_none {a : List ByteArray} {cs : List Ch} (h : appR a cs = none) : appD a cs = [] ∧ appG a cs = false := by unfold appD appG; rw [h]; exact ⟨rfl, rfl⟩
theorem appD_some {a o : List ByteArray} {cs : List Ch} (h : appR a cs = some o) : appD a cs = o ∧ appG a cs = true := by unfold appD appG; rw [h]; exact ⟨rfl, rfl⟩
theorem appR_parts {a o : List ByteArray} {cs : List Ch} (h : appR a cs = some o) : validLs a = true ∧ vCh cs = true ∧ app a cs = some o ∧ o.length ≤ 20 := by
  unfold appR at h
  split at h
  · rename_i hv
    obtain ⟨h1, h2⟩ := Option.filter_eq_some_iff.1 h
    exact ⟨hv.1, hv.2, h1, by simpa using h2⟩
  · cases h
theorem appD_len (a : List ByteArray) (cs : List Ch) : (appD a cs).length ≤ 20 := by
  cases h : appR a cs with
  | none => rw [(appD_none h).1]; exact Nat.zero_le _
  | some o => rw [(appD_some h).1]; exact (appR_parts h).2.2.2

/-- i lines are taken, k changes carried out, and these lines put -/
def ApSt (a : List ByteArray) (cs : List Ch) (i k : Nat) (out : List ByteArray) : Prop :=
  app a cs = (app (a.drop i) (cs.drop k)).map (out ++ ·) ∧ out.length ≤ k ∧ i ≤ a.length ∧ ∀ x ∈ out, validT x.data.toList = true
theorem ap_start (a : List ByteArray) (cs : List Ch) : ApSt a cs 0 0 [] := by
  refine ⟨?_, Nat.le_refl _, Nat.zero_le _, fun x h => by cases h⟩
  show app a cs = (app a cs).map _
  cases app a cs <;> rfl
theorem map_map_cons (o : Option (List ByteArray)) (out : List ByteArray) (l : ByteArray) : (o.map (l :: ·)).map (out ++ ·) = o.map ((out ++ [l]) ++ ·) := by
  cases o with
  | none => rfl
  | some x => simp
theorem ap_add {a out : List ByteArray} {cs : List Ch} {i k : Nat} {ln : ByteArray} (h : ApSt a cs i k out) (hk : k < cs.length) (e : nthH cs k = (2, ln)) (hv : validT ln.data.toList = true) : ApSt a cs i (k + 1) (out ++ [ln]) := by
  obtain ⟨h1, h2, h3, h4⟩ := h
  refine ⟨?_, by rw [List.length_append, List.length_singleton]; omega, h3, fun x hx => ?_⟩
  · rw [h1, drop_nthH hk, e, app_add, map_map_cons]
  · rcases List.mem_append.1 hx with hx | hx
    · exact h4 x hx
    · rw [List.mem_singleton] at hx; rw [hx]; exact hv
theorem ap_none {a out : List ByteArray} {cs : List Ch} {i k : Nat} {kd : Int} {ln : ByteArray} (h : ApSt a cs i k out) (hk : k < cs.length) (e : nthH cs k = (kd, ln)) (h2 : ¬ kd = 2) (hi : ¬ i < a.length) : app a cs = none := by
  rw [h.1, drop_nthH hk, e, List.drop_eq_nil_of_le (by omega), app_none h2]; rfl
theorem ap_wrong {a out : List ByteArray} {cs : List Ch} {i k : Nat} {kd : Int} {ln x : ByteArray} (h : ApSt a cs i k out) (hk : k < cs.length) (e : nthH cs k = (kd, ln)) (h2 : ¬ kd = 2) (hi : i < a.length) (hx : nth a i = x) (hne : ¬ x = ln) : app a cs = none := by
  rw [h.1, drop_nthH hk, e, drop_nth hi, app_wrong h2 (by rw [hx]; exact hne)]; rfl
theorem ap_drop {a out : List ByteArray} {cs : List Ch} {i k : Nat} {ln : ByteArray} (h : ApSt a cs i k out) (hk : k < cs.length) (e : nthH cs k = (1, ln)) (hi : i < a.length) (hx : nth a i = ln) : ApSt a cs (i + 1) (k + 1) out := by
  obtain ⟨h1, h2, h3, h4⟩ := h
  exact ⟨by rw [h1, drop_nthH hk, e, drop_nth hi, hx, app_drop], by omega, by omega, h4⟩
theorem ap_keep {a out : List ByteArray} {cs : List Ch} {i k : Nat} {kd : Int} {ln : ByteArray} (h : ApSt a cs i k out) (hk : k < cs.length) (e : nthH cs k = (kd, ln)) (h2 : ¬ kd = 2) (h1 : ¬ kd = 1) (hi : i < a.length) (hx : nth a i = ln) (hv : validT ln.data.toList = true) : ApSt a cs (i + 1) (k + 1) (out ++ [ln]) := by
  obtain ⟨g1, g2, g3, g4⟩ := h
  refine ⟨?_, by rw [List.length_append, List.length_singleton]; omega, by omega, fun x hx => ?_⟩
  · rw [g1, drop_nthH hk, e, drop_nth hi, hx, app_keep h2 h1, map_map_cons]
  · rcases List.mem_append.1 hx with hx | hx
    · exact g4 x hx
    · rw [List.mem_singleton] at hx; rw [hx]; exact hv
theorem ap_left {a out : List ByteArray} {cs : List Ch} {i : Nat} (h : ApSt a cs i cs.length out) (hi : i < a.length) : app a cs = none := by
  rw [h.1, List.drop_length, drop_nth hi, app_left (by simp)]; rfl
theorem ap_done {a out : List ByteArray} {cs : List Ch} {i : Nat} (h : ApSt a cs i cs.length out) (hi : ¬ i < a.length) : app a cs = some out := by
  rw [h.1, List.drop_length, List.drop_eq_nil_of_le (by omega), app_end]; simp
theorem ap_valid {a out : List ByteArray} {cs : List Ch} {i k : Nat} (h : ApSt a cs i k out) : validLs out = decide (out.length ≤ 20) := by
  unfold validLs
  have : out.all (fun s => validT s.data.toList) = true := by rw [List.all_eq_true]; exact h.2.2.2
  rw [this, Bool.true_and]
end Go.Proofs.Ytckfpneooknifaa.pl
