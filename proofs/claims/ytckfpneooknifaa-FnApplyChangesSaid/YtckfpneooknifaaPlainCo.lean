/- Plain mathematics: what two texts have in common, changes, and what they make. -/
import Derived.Test.YtckfpneooknifaaPkB
namespace Go.Proofs.Ytckfpneooknifaa.pl

/-- the most lines that two texts have in common, in order -/
def lcs : List ByteArray → List ByteArray → Nat
  | [], _ => 0
  | _ :: _, [] => 0
  | x :: xs, y :: ys => if x = y then lcs xs ys + 1 else max (lcs xs (y :: ys)) (lcs (x :: xs) ys)
termination_by a b => a.length + b.length

theorem lcs_nil1 (b : List ByteArray) : lcs [] b = 0 := by rw [lcs]
theorem lcs_nil2 (a : List ByteArray) : lcs a [] = 0 := by cases a <;> rw [lcs]
theorem lcs_same (x : ByteArray) (a b : List ByteArray) : lcs (x :: a) (x :: b) = lcs a b + 1 := by rw [lcs, if_pos rfl]
theorem lcs_else {x y : ByteArray} (h : ¬ x = y) (a b : List ByteArray) : lcs (x :: a) (y :: b) = max (lcs a (y :: b)) (lcs (x :: a) b) := by rw [lcs, if_neg h]
theorem lcs_le (a b : List ByteArray) : lcs a b ≤ a.length ∧ lcs a b ≤ b.length := by
  induction a generalizing b with
  | nil => rw [lcs_nil1]; exact ⟨Nat.zero_le _, Nat.zero_le _⟩
  | cons x a iha =>
    induction b with
    | nil => rw [lcs_nil2]; exact ⟨Nat.zero_le _, Nat.zero_le _⟩
    | cons y b ihb =>
      by_cases e : x = y
      · subst e
        have := iha b
        rw [lcs_same]; simp only [List.length_cons]; omega
      · have h1 := iha (y :: b)
        rw [lcs_else e]; simp only [List.length_cons] at *; omega
theorem lcs_comm (a b : List ByteArray) : lcs a b = lcs b a := by
  induction a generalizing b with
  | nil => rw [lcs_nil1, lcs_nil2]
  | cons x a iha =>
    induction b with
    | nil => rw [lcs_nil1, lcs_nil2]
    | cons y b ihb =>
      by_cases e : x = y
      · subst e; rw [lcs_same, lcs_same, iha b]
      · rw [lcs_else e, lcs_else (fun h => e h.symm), iha (y :: b), ihb, Nat.max_comm]
theorem lcs_self (a : List ByteArray) : lcs a a = a.length := by
  induction a with
  | nil => rw [lcs_nil1]; rfl
  | cons x a ih => rw [lcs_same, ih]; rfl

/-- the table: what the lines from i on and those from k on have in common -/
def tabC (a b : List ByteArray) (i k : Nat) : Nat := lcs (a.drop i) (b.drop k)
theorem tab_end1 {a b : List ByteArray} {i k : Nat} (h : a.length ≤ i) : tabC a b i k = 0 := by
  unfold tabC; rw [List.drop_eq_nil_of_le h, lcs_nil1]
theorem tab_end2 {a b : List ByteArray} {i k : Nat} (h : b.length ≤ k) : tabC a b i k = 0 := by
  unfold tabC; rw [List.drop_eq_nil_of_le h, lcs_nil2]
theorem drop_nth {a : List ByteArray} {i : Nat} (h : i < a.length) : a.drop i = nth a i :: a.drop (i + 1) := by
  rw [nth_eq h]; exact List.drop_eq_getElem_cons h
theorem tab_same {a b : List ByteArray} {i k : Nat} (hi : i < a.length) (hk : k < b.length) (e : nth a i = nth b k) : tabC a b i k = tabC a b (i + 1) (k + 1) + 1 := by
  unfold tabC; rw [drop_nth hi, drop_nth hk, e, lcs_same]
theorem tab_else {a b : List ByteArray} {i k : Nat} (hi : i < a.length) (hk : k < b.length) (e : ¬ nth a i = nth b k) : tabC a b i k = max (tabC a b (i + 1) k) (tabC a b i (k + 1)) := by
  unfold tabC; rw [drop_nth hi, drop_nth hk, lcs_else e]
theorem tab_le (a b : List ByteArray) (i k : Nat) : tabC a b i k ≤ a.length := by
  have := (lcs_le (a.drop i) (b.drop k)).1
  rw [List.length_drop] at this
  unfold tabC; omega

/-- a kind and a line -/
abbrev Ch := Int × ByteArray
/-- the changes by which lines become others -/
def chg : List ByteArray → List ByteArray → List Ch
  | [], [] => []
  | x :: xs, [] => (1, x) :: chg xs []
  | [], y :: ys => (2, y) :: chg [] ys
  | x :: xs, y :: ys => if x = y then (0, x) :: chg xs ys else if lcs (x :: xs) ys ≤ lcs xs (y :: ys) then (1, x) :: chg xs (y :: ys) else (2, y) :: chg (x :: xs) ys
termination_by a b => a.length + b.length
theorem chg_nil : chg [] [] = [] := by rw [chg]
theorem chg_left (x : ByteArray) (a : List ByteArray) : chg (x :: a) [] = (1, x) :: chg a [] := by rw [chg]
theorem chg_right (y : ByteArray) (b : List ByteArray) : chg [] (y :: b) = (2, y) :: chg [] b := by rw [chg]
theorem chg_keep (x : ByteArray) (a b : List ByteArray) : chg (x :: a) (x :: b) = (0, x) :: chg a b := by rw [chg, if_pos rfl]
theorem chg_drop {x y : ByteArray} {a b : List ByteArray} (e : ¬ x = y) (h : lcs (x :: a) b ≤ lcs a (y :: b)) : chg (x :: a) (y :: b) = (1, x) :: chg a (y :: b) := by rw [chg, if_neg e, if_pos h]
theorem chg_add {x y : ByteArray} {a b : List ByteArray} (e : ¬ x = y) (h : ¬ lcs (x :: a) b ≤ lcs a (y :: b)) : chg (x :: a) (y :: b) = (2, y) :: chg (x :: a) b := by rw [chg, if_neg e, if_neg h]

/-- by what changes from the places i and k on -/
def chgAt (a b : List ByteArray) (i k : Nat) : List Ch := chg (a.drop i) (b.drop k)
theorem chgAt_end {a b : List ByteArray} {i k : Nat} (hi : a.length ≤ i) (hk : b.length ≤ k) : chgAt a b i k = [] := by
  unfold chgAt; rw [List.drop_eq_nil_of_le hi, List.drop_eq_nil_of_le hk, chg_nil]
theorem chgAt_keep {a b : List ByteArray} {i k : Nat} (hi : i < a.length) (hk : k < b.length) (e : nth a i = nth b k) : chgAt a b i k = (0, nth a i) :: chgAt a b (i + 1) (k + 1) := by
  unfold chgAt; rw [drop_nth hi, drop_nth hk, ← e, chg_keep]
theorem chgAt_left {a b : List ByteArray} {i k : Nat} (hi : i < a.length) (hk : b.length ≤ k) : chgAt a b i k = (1, nth a i) :: chgAt a b (i + 1) k := by
  unfold chgAt; rw [drop_nth hi, List.drop_eq_nil_of_le hk, chg_left]
theorem chgAt_right {a b : List ByteArray} {i k : Nat} (hi : a.length ≤ i) (hk : k < b.length) : chgAt a b i k = (2, nth b k) :: chgAt a b i (k + 1) := by
  unfold chgAt; rw [drop_nth hk, List.drop_eq_nil_of_le hi, chg_right]
theorem chgAt_drop {a b : List ByteArray} {i k : Nat} (hi : i < a.length) (hk : k < b.length) (e : ¬ nth a i = nth b k) (h : tabC a b i (k + 1) ≤ tabC a b (i + 1) k) : chgAt a b i k = (1, nth a i) :: chgAt a b (i + 1) k := by
  unfold tabC at h
  unfold chgAt; rw [drop_nth hi, drop_nth hk] at *; exact chg_drop e h
theorem chgAt_add {a b : List ByteArray} {i k : Nat} (hi : i < a.length) (hk : k < b.length) (e : ¬ nth a i = nth b k) (h : ¬ tabC a b i (k + 1) ≤ tabC a b (i + 1) k) : chgAt a b i k = (2, nth b k) :: chgAt a b i (k + 1) := by
  unfold tabC at h
  unfold chgAt; rw [drop_nth hi, drop_nth hk] at *; exact chg_add e h

/-- how many of the changes keep -/
def keptC (cs : List Ch) : Nat := (cs.filter fun c => decide (c.1 = 0)).length
theorem keptC_cons (c : Ch) (cs : List Ch) : keptC (c :: cs) = keptC cs + if c.1 = 0 then 1 else 0 := by
  unfold keptC
  by_cases h : c.1 = 0
  · rw [List.filter_cons, if_pos (by simp [h]), if_pos h]; rfl
  · rw [List.filter_cons, if_neg (by simp [h]), if_neg h]; rfl

/-- what lines become by changes -/
def app : List ByteArray → List Ch → Option (List ByteArray)
  | a, [] => if a = [] then some [] else none
  | a, (k, l) :: cs =>
    if k = 2 then (app a cs).map (l :: ·)
    else match a with
      | [] => none
      | x :: xs => if x = l then (if k = 1 then app xs cs else (app xs cs).map (l :: ·)) else none
theorem app_cons (a : List ByteArray) (k : Int) (l : ByteArray) (cs : List Ch) : app a ((k, l) :: cs) = if k = 2 then (app a cs).map (l :: ·)
    else match a with
      | [] => none
      | x :: xs => if x = l then (if k = 1 then app xs cs else (app xs cs).map (l :: ·)) else none := by
  cases a <;> rfl
theorem app_end : app [] [] = some [] := rfl
theorem app_left {a : List ByteArray} (h : a ≠ []) : app a [] = none := by
  cases a with
  | nil => exact absurd rfl h
  | cons x a => rfl
theorem app_add (a : List ByteArray) (l : ByteArray) (cs : List Ch) : app a ((2, l) :: cs) = (app a cs).map (l :: ·) := by rw [app_cons, if_pos rfl]
theorem app_none {k : Int} (h : ¬ k = 2) (l : ByteArray) (cs : List Ch) : app [] ((k, l) :: cs) = none := by rw [app_cons, if_neg h]
theorem app_wrong {k : Int} (h : ¬ k = 2) {x l : ByteArray} (e : ¬ x = l) (a : List ByteArray) (cs : List Ch) : app (x :: a) ((k, l) :: cs) = none := by rw [app_cons, if_neg h]; exact if_neg e
theorem app_drop (l : ByteArray) (a : List ByteArray) (cs : List Ch) : app (l :: a) ((1, l) :: cs) = app a cs := by rw [app_cons, if_neg (by decide)]; simp
theorem app_keep {k : Int} (h : ¬ k = 2) (h1 : ¬ k = 1) (l : ByteArray) (a : List ByteArray) (cs : List Ch) : app (l :: a) ((k, l) :: cs) = (app a cs).map (l :: ·) := by rw [app_cons, if_neg h]; simp [h1]

theorem app_chg (a b : List ByteArray) : app a (chg a b) = some b ∧ keptC (chg a b) = lcs a b ∧ (chg a b).length + lcs a b = a.length + b.length := by
  induction a generalizing b with
  | nil =>
    induction b with
    | nil => rw [chg_nil, lcs_nil1]; exact ⟨rfl, rfl, rfl⟩
    | cons y b ih =>
      obtain ⟨h1, h2, h3⟩ := ih
      rw [chg_right, lcs_nil1]
      rw [lcs_nil1] at h2 h3
      refine ⟨by rw [app_add, h1]; rfl, by rw [keptC_cons, h2]; rfl, ?_⟩
      simp only [List.length_cons] at *; omega
  | cons x a iha =>
    induction b with
    | nil =>
      obtain ⟨h1, h2, h3⟩ := iha []
      rw [chg_left, lcs_nil2]
      rw [lcs_nil2] at h2 h3
      refine ⟨by rw [app_drop, h1], by rw [keptC_cons, h2]; rfl, ?_⟩
      simp only [List.length_cons] at *; omega
    | cons y b ihb =>
      by_cases e : x = y
      · subst e
        obtain ⟨h1, h2, h3⟩ := iha b
        rw [chg_keep, lcs_same]
        refine ⟨by rw [app_keep (by decide) (by decide), h1]; rfl, by rw [keptC_cons, h2]; rfl, ?_⟩
        simp only [List.length_cons] at *; omega
      · by_cases h : lcs (x :: a) b ≤ lcs a (y :: b)
        · obtain ⟨h1, h2, h3⟩ := iha (y :: b)
          rw [chg_drop e h, lcs_else e, Nat.max_eq_left h]
          refine ⟨by rw [app_drop, h1], by rw [keptC_cons, h2]; rfl, ?_⟩
          simp only [List.length_cons] at *; omega
        · obtain ⟨h1, h2, h3⟩ := ihb
          rw [chg_add e h, lcs_else e, Nat.max_eq_right (by omega)]
          refine ⟨by rw [app_add, h1]; rfl, by rw [keptC_cons, h2]; rfl, ?_⟩
          simp only [List.length_cons] at *; omega

/-- a change that takes another back -/
def turnK (k : Int) : Int := if k = 1 then 2 else if k = 2 then 1 else k
def turnC (c : Ch) : Ch := (turnK c.1, c.2)
theorem turnK_twice (k : Int) : turnK (turnK k) = k := by
  unfold turnK
  by_cases h1 : k = 1
  · subst h1; decide
  · by_cases h2 : k = 2
    · subst h2; decide
    · rw [if_neg h1, if_neg h2, if_neg h1, if_neg h2]
theorem turnC_twice (cs : List Ch) : (cs.map turnC).map turnC = cs := by
  rw [List.map_map]
  conv => rhs; rw [← List.map_id cs]
  apply List.map_congr_left
  intro c _
  obtain ⟨k, l⟩ := c
  show (turnK (turnK k), l) = (k, l)
  rw [turnK_twice]
theorem app_turn {cs : List Ch} {a b : List ByteArray} (h : app a cs = some b) : app b (cs.map turnC) = some a := by
  induction cs generalizing a b with
  | nil =>
    by_cases ha : a = []
    · subst ha; rw [app_end] at h; injection h with h; subst h; rfl
    · rw [app_left ha] at h; cases h
  | cons c cs ih =>
    obtain ⟨k, l⟩ := c
    rw [List.map_cons, show turnC (k, l) = (turnK k, l) from rfl]
    by_cases h2 : k = 2
    · subst h2
      rw [app_add] at h
      cases ho : app a cs with
      | none => rw [ho] at h; cases h
      | some o =>
        rw [ho] at h; injection h with h; subst h
        rw [show turnK 2 = 1 from by decide]
        exact (app_drop l o _).trans (ih ho)
    · cases a with
      | nil => rw [app_none h2] at h; cases h
      | cons x a =>
        by_cases e : x = l
        · subst e
          by_cases h1 : k = 1
          · subst h1
            rw [app_drop] at h
            rw [show turnK 1 = 2 from by decide, app_add, ih h]; rfl
          · rw [app_keep h2 h1] at h
            cases ho : app a cs with
            | none => rw [ho] at h; cases h
            | some o =>
              rw [ho] at h; injection h with h; subst h
              rw [show turnK k = k from by unfold turnK; rw [if_neg h1, if_neg h2], app_keep h2 h1, ih ho]; rfl
        · rw [app_wrong h2 e] at h; cases h
end Go.Proofs.Ytckfpneooknifaa.pl
