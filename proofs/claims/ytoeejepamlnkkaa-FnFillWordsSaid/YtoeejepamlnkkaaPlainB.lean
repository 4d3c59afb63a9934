/- Plain mathematics: the least ragged lines. -/
import Derived.Test.YtoeejepamlnkkaaPlainA
import Derived.Test.YtoeejepamlnkkaaPlainC
namespace Go.Proofs.Ytoeejepamlnkkaa.pl

def sqL (wd : Int) (g : List ByteArray) : Int := (wd - szJ g) * (wd - szJ g)
def costG (wd : Int) : Gs → Int
  | [] => 0
  | [_] => 0
  | g :: h :: r => sqL wd g + costG wd (h :: r)
theorem costG_one (wd) (g : List ByteArray) : costG wd [g] = 0 := rfl
theorem costG_cons (wd) (g : List ByteArray) {e : Gs} (h : e ≠ []) : costG wd (g :: e) = sqL wd g + costG wd e := by
  cases e with
  | nil => exact absurd rfl h
  | cons a b => rfl
theorem costG_nn (wd) : ∀ gs, 0 ≤ costG wd gs
  | [] => Int.le_refl _
  | [_] => Int.le_refl _
  | g :: h :: r => by
    have := costG_nn wd (h :: r)
    have : 0 ≤ sqL wd g := sq_nn _
    unfold costG; omega

/-- w puts the words l into lines no longer than wd -/
def isWay (wd : Int) (l : List ByteArray) (w : Gs) : Prop := w.flatten = l ∧ (∀ g ∈ w, g ≠ []) ∧ fitG wd w = true
def fuller : Gs → Gs → Bool
  | a :: r, b :: s => if a.length = b.length then fuller r s else decide (b.length < a.length)
  | _, _ => false
def better (wd : Int) (a b : Gs) : Prop := costG wd a < costG wd b ∨ (costG wd a = costG wd b ∧ (a = b ∨ fuller a b = true))
def Best (wd : Int) (l : List ByteArray) (e : Gs) : Prop := isWay wd l e ∧ ∀ w, isWay wd l w → better wd e w

theorem isWay_nil (wd : Int) : isWay wd [] [] := ⟨rfl, fun _ h => by simp at h, rfl⟩
theorem isWay_of_nil {wd : Int} {w : Gs} (h : isWay wd [] w) : w = [] := by
  cases w with
  | nil => rfl
  | cons g r =>
    have h1 := h.2.1 g (by simp)
    have h2 := h.1
    simp at h2
    exact absurd h2.1 h1
theorem isWay_cons {wd : Int} {g : List ByteArray} {w : Gs} {l : List ByteArray} : isWay wd (g ++ l) (g :: w) ↔ (g ≠ [] ∧ fitL wd g = true ∧ isWay wd l w) := by
  constructor
  · rintro ⟨h1, h2, h3⟩
    rw [fitG_cons, Bool.and_eq_true] at h3
    refine ⟨h2 g (by simp), h3.1, ?_, fun x hx => h2 x (List.mem_cons_of_mem _ hx), h3.2⟩
    rw [List.flatten_cons] at h1
    exact List.append_cancel_left h1
  · rintro ⟨h1, h2, h3, h4, h5⟩
    refine ⟨by rw [List.flatten_cons, h3], ?_, by rw [fitG_cons, h2, h5]; rfl⟩
    intro x hx
    rcases List.mem_cons.1 hx with rfl | hx
    · exact h1
    · exact h4 x hx
/-- the first line of a way, and those behind it -/
theorem isWay_split {wd : Int} {l : List ByteArray} {w : Gs} (h : isWay wd l w) (hl : l ≠ []) : ∃ g r, w = g :: r ∧ g ≠ [] ∧ fitL wd g = true ∧ l = g ++ l.drop g.length ∧ isWay wd (l.drop g.length) r := by
  cases w with
  | nil => exact absurd h.1.symm hl
  | cons g r =>
    have e : l = g ++ r.flatten := by rw [← h.1]; rfl
    have e2 : l.drop g.length = r.flatten := by rw [e]; simp
    have h' : isWay wd (g ++ r.flatten) (g :: r) := by rw [← e]; exact h
    have h2 := isWay_cons.1 h'
    exact ⟨g, r, rfl, h2.1, h2.2.1, by rw [e2]; exact e, by rw [e2]; exact h2.2.2⟩

theorem fuller_anti : ∀ a b, fuller a b = true → fuller b a = false
  | [], [], h => by simp [fuller] at h
  | [], _ :: _, h => by simp [fuller] at h
  | _ :: _, [], h => by simp [fuller] at h
  | a :: r, b :: s, h => by
    unfold fuller at h ⊢
    by_cases e : a.length = b.length
    · rw [if_pos e] at h; rw [if_pos e.symm]; exact fuller_anti r s h
    · rw [if_neg e] at h; rw [if_neg (fun x => e x.symm)]
      rw [decide_eq_true_eq] at h
      exact decide_eq_false (by omega)
theorem fuller_trans : ∀ a b c, fuller a b = true → fuller b c = true → fuller a c = true
  | [], _, _, h, _ => by simp [fuller] at h
  | _ :: _, [], _, h, _ => by simp [fuller] at h
  | _ :: _, _ :: _, [], _, h => by simp [fuller] at h
  | a :: r, b :: s, c :: t, h1, h2 => by
    unfold fuller at h1 h2 ⊢
    by_cases e : a.length = b.length
    · rw [if_pos e] at h1
      by_cases e2 : b.length = c.length
      · rw [if_pos e2] at h2; rw [if_pos (by omega)]; exact fuller_trans r s t h1 h2
      · rw [if_neg e2, decide_eq_true_eq] at h2; rw [if_neg (by omega)]; exact decide_eq_true (by omega)
    · rw [if_neg e, decide_eq_true_eq] at h1
      by_cases e2 : b.length = c.length
      · rw [if_neg (by omega)]; exact decide_eq_true (by omega)
      · rw [if_neg e2, decide_eq_true_eq] at h2; rw [if_neg (by omega)]; exact decide_eq_true (by omega)
/-- of two ways of the same words that differ, one is fuller -/
theorem fuller_total {wd : Int} : ∀ (a b : Gs) (l : List ByteArray), isWay wd l a → isWay wd l b → a = b ∨ fuller a b = true ∨ fuller b a = true
  | [], b, l, ha, hb => by
    have : l = [] := ha.1.symm
    subst this
    exact .inl (isWay_of_nil hb).symm
  | g :: r, b, l, ha, hb => by
    have hl : l ≠ [] := fun e => by subst e; have := isWay_of_nil ha; simp at this
    obtain ⟨g1, r1, e1, h1, _, s1, w1⟩ := isWay_split ha hl
    obtain ⟨g2, r2, e2, h2, _, s2, w2⟩ := isWay_split hb hl
    cases e1
    subst e2
    by_cases e : g.length = g2.length
    · have eg : g = g2 := by
        have a1 : l.take g.length = g := by rw [s1]; simp
        have a2 : l.take g2.length = g2 := by rw [s2]; simp
        rw [← a1, ← a2, e]
      subst eg
      rcases fuller_total r r2 _ w1 w2 with h | h | h
      · exact .inl (by rw [h])
      · exact .inr (.inl (by unfold fuller; rw [if_pos rfl]; exact h))
      · exact .inr (.inr (by unfold fuller; rw [if_pos rfl]; exact h))
    · by_cases e3 : g2.length < g.length
      · exact .inr (.inl (by unfold fuller; rw [if_neg e]; exact decide_eq_true e3))
      · exact .inr (.inr (by unfold fuller; rw [if_neg (by omega)]; exact decide_eq_true (by omega)))
theorem better_refl (wd : Int) (a : Gs) : better wd a a := .inr ⟨rfl, .inl rfl⟩
theorem better_trans {wd : Int} {a b c : Gs} (h1 : better wd a b) (h2 : better wd b c) : better wd a c := by
  rcases h1 with h1 | ⟨h1, h1'⟩
  · rcases h2 with h2 | ⟨h2, _⟩
    · exact .inl (by omega)
    · exact .inl (by omega)
  · rcases h2 with h2 | ⟨h2, h2'⟩
    · exact .inl (by omega)
    · refine .inr ⟨by omega, ?_⟩
      rcases h1' with rfl | h1'
      · exact h2'
      · rcases h2' with rfl | h2'
        · exact .inr h1'
        · exact .inr (fuller_trans _ _ _ h1' h2')
theorem best_unique {wd : Int} {l : List ByteArray} {a b : Gs} (ha : Best wd l a) (hb : Best wd l b) : a = b := by
  have h1 := ha.2 b hb.1
  have h2 := hb.2 a ha.1
  rcases h1 with h1 | ⟨h1, h1'⟩
  · rcases h2 with h2 | ⟨h2, _⟩ <;> omega
  · rcases h2 with h2 | ⟨h2, h2'⟩
    · omega
    · rcases h1' with e | h1'
      · exact e
      · rcases h2' with e | h2'
        · exact e.symm
        · rw [fuller_anti _ _ h1'] at h2'; cases h2'
theorem best_nil (wd : Int) : Best wd [] [] := ⟨isWay_nil wd, fun w h => by rw [isWay_of_nil h]; exact better_refl _ _⟩

/-- a round of the search for the least -/
def upd (best v : Int) : Int := if best < 0 ∨ v < best then v else best
def lC (wd : Int) : List ByteArray → List ByteArray → Int → Int
  | c, [], best => if fitL wd c = true then upd best 0 else best
  | c, y :: l, best => if fitL wd c = true then lC wd (c ++ [y]) l (upd best (lC wd [y] l (-1) + sqL wd c)) else best
def lF (wd : Int) : List ByteArray → Int
  | [] => 0
  | x :: l => lC wd [x] l (-1)
theorem lC_no {wd : Int} {c : List ByteArray} (h : fitL wd c = false) (l : List ByteArray) (b : Int) : lC wd c l b = b := by
  cases l <;> simp [lC, h]
theorem lC_nil {wd : Int} {c : List ByteArray} (h : fitL wd c = true) (b : Int) : lC wd c [] b = upd b 0 := by simp [lC, h]
theorem lC_cons {wd : Int} {c : List ByteArray} (h : fitL wd c = true) (y : ByteArray) (l : List ByteArray) (b : Int) : lC wd c (y :: l) b = lC wd (c ++ [y]) l (upd b (lF wd (y :: l) + sqL wd c)) := by simp [lC, lF, h]
theorem upd_nn {b v : Int} (h : 0 ≤ v) : 0 ≤ upd b v := by unfold upd; split <;> omega
theorem upd_le {b v : Int} : upd b v ≤ v := by unfold upd; split <;> omega
theorem upd_le2 {b v : Int} (h : 0 ≤ b) : upd b v ≤ b := by unfold upd; split <;> omega
theorem upd_or (b v : Int) : upd b v = b ∨ upd b v = v := by unfold upd; split <;> simp

def allFit (wd : Int) (l : List ByteArray) : Prop := ∀ x ∈ l, fitL wd [x] = true
theorem isWay_ne {wd : Int} {l : List ByteArray} {w : Gs} (h : isWay wd l w) (hl : l ≠ []) : w ≠ [] := fun e => by subst e; exact hl h.1.symm
theorem isWay_isnil {wd : Int} {l : List ByteArray} {w : Gs} (h : isWay wd l w) (hw : w ≠ []) : l ≠ [] := fun e => by subst e; exact hw (isWay_of_nil h)

theorem fitL_app {wd : Int} : ∀ {c : List ByteArray}, fitL wd c = false → ∀ t, fitL wd (c ++ t) = false
  | c, h, [] => by simpa using h
  | c, h, x :: t => by
    have := fitL_app (fitL_snoc (x := x) h) t
    simpa using this
theorem lC_facts (wd : Int) : ∀ (l c : List ByteArray) (b : Int), allFit wd l → c ≠ [] →
    (0 ≤ b ∨ fitL wd c = true → 0 ≤ lC wd c l b) ∧
    (0 ≤ b → lC wd c l b ≤ b) ∧
    (∀ t r, isWay wd (c ++ l) ((c ++ t) :: r) → lC wd c l b ≤ costG wd ((c ++ t) :: r)) ∧
    (lC wd c l b = b ∨ ∃ t r, isWay wd (c ++ l) ((c ++ t) :: r) ∧ costG wd ((c ++ t) :: r) = lC wd c l b)
  | [], c, b, _, hc => by
    by_cases hf : fitL wd c = true
    · rw [lC_nil hf]
      refine ⟨fun _ => upd_nn (Int.le_refl _), fun h => upd_le2 h, fun t r h => Int.le_trans upd_le (costG_nn _ _), ?_⟩
      rcases upd_or b 0 with h | h
      · exact .inl h
      · refine .inr ⟨[], [], ?_, by rw [h]; rfl⟩
        have := isWay_cons.2 ⟨hc, hf, isWay_nil wd⟩
        simpa using this
    · have hf' : fitL wd c = false := by simpa using hf
      rw [lC_no hf']
      refine ⟨fun h => by rcases h with h | h; exact h; exact absurd h hf, fun h => Int.le_refl _, fun t r h => ?_, .inl rfl⟩
      exfalso
      have h1 := h.2.2
      rw [fitG_cons, Bool.and_eq_true] at h1
      rw [fitL_app hf' t] at h1
      cases h1.1
  | y :: l, c, b, hall, hc => by
    by_cases hf : fitL wd c = true
    · have hy : fitL wd [y] = true := hall y (by simp)
      have hall' : allFit wd l := fun x hx => hall x (by simp [hx])
      obtain ⟨i1, _, i3, i4⟩ := lC_facts wd l [y] (-1) hall' (by simp)
      have hF : lF wd (y :: l) = lC wd [y] l (-1) := rfl
      rw [← hF] at i1 i3 i4
      have hFn : 0 ≤ lF wd (y :: l) := i1 (.inr hy)
      have hsq : 0 ≤ sqL wd c := sq_nn _
      obtain ⟨j1, j2, j3, j4⟩ := lC_facts wd l (c ++ [y]) (upd b (lF wd (y :: l) + sqL wd c)) hall' (by simp)
      have hu : 0 ≤ upd b (lF wd (y :: l) + sqL wd c) := upd_nn (by omega)
      rw [lC_cons hf]
      refine ⟨fun _ => j1 (.inl hu), fun h => Int.le_trans (j2 hu) (upd_le2 h), ?_, ?_⟩
      · intro t r h
        cases t with
        | nil =>
          rw [List.append_nil] at h ⊢
          have h2 := (isWay_cons.1 h).2.2
          obtain ⟨g, r', e, hg, _, es, hw⟩ := isWay_split h2 (by simp)
          rw [costG_cons wd c (isWay_ne h2 (by simp))]
          cases g with
          | nil => exact absurd rfl hg
          | cons a t2 =>
            have ea : a = y := by
              have := congrArg List.head? es
              simpa using this.symm
            subst ea
            have h3 : isWay wd ([a] ++ l) (([a] ++ t2) :: r') := by subst e; exact h2
            have := i3 t2 r' h3
            have h4 := j2 hu
            have h5 : upd b (lF wd (a :: l) + sqL wd c) ≤ lF wd (a :: l) + sqL wd c := upd_le
            subst e
            have h6 : costG wd (([a] ++ t2) :: r') = costG wd ((a :: t2) :: r') := rfl
            omega
        | cons a t2 =>
          have ea : a = y := by
            have e := h.1
            rw [List.flatten_cons, List.append_assoc] at e
            have e2 := List.append_cancel_left e
            have := congrArg List.head? e2
            simpa using this
          subst ea
          have e3 : c ++ a :: t2 = c ++ [a] ++ t2 := by simp
          have e4 : c ++ a :: l = c ++ [a] ++ l := by simp
          rw [e3, e4] at h
          rw [e3]
          exact j3 t2 r h
      · rcases j4 with j4 | ⟨t, r, h1, h2⟩
        · rcases upd_or b (lF wd (y :: l) + sqL wd c) with h | h
          · exact .inl (by rw [j4, h])
          · right
            rcases i4 with i4 | ⟨t, r, h1, h2⟩
            · rw [i4] at hFn; omega
            · refine ⟨[], ([y] ++ t) :: r, ?_, ?_⟩
              · rw [List.append_nil]
                exact isWay_cons.2 ⟨hc, hf, h1⟩
              · rw [List.append_nil, costG_cons wd c (by simp), h2, j4, h]; omega
        · right
          refine ⟨y :: t, r, ?_, ?_⟩
          · have e3 : c ++ y :: t = c ++ [y] ++ t := by simp
            have e4 : c ++ y :: l = c ++ [y] ++ l := by simp
            rw [e3, e4]; exact h1
          · have e3 : c ++ y :: t = c ++ [y] ++ t := by simp
            rw [e3]; exact h2
    · have hf' : fitL wd c = false := by simpa using hf
      rw [lC_no hf']
      refine ⟨fun h => by rcases h with h | h; exact h; exact absurd h hf, fun h => Int.le_refl _, fun t r h => ?_, .inl rfl⟩
      exfalso
      have h1 := h.2.2
      rw [fitG_cons, Bool.and_eq_true] at h1
      rw [fitL_app hf' t] at h1
      cases h1.1

/-- the least cost is that of a way, and no way's is less -/
theorem lF_facts {wd : Int} {l : List ByteArray} (h : allFit wd l) : 0 ≤ lF wd l ∧ (∀ w, isWay wd l w → lF wd l ≤ costG wd w) ∧ ∃ w, isWay wd l w ∧ costG wd w = lF wd l := by
  cases l with
  | nil => exact ⟨Int.le_refl _, fun w hw => by rw [isWay_of_nil hw]; exact Int.le_refl _, [], isWay_nil wd, rfl⟩
  | cons x l =>
    obtain ⟨i1, _, i3, i4⟩ := lC_facts wd l [x] (-1) (fun y hy => h y (by simp [hy])) (by simp)
    have i0 := i1 (.inr (h x (by simp)))
    refine ⟨i0, fun w hw => ?_, ?_⟩
    · obtain ⟨g, r, e, hg, _, es, _⟩ := isWay_split hw (by simp)
      cases g with
      | nil => exact absurd rfl hg
      | cons a t =>
        have ea : a = x := by
          have := congrArg List.head? es
          simpa using this.symm
        subst ea
        subst e
        exact i3 t r hw
    · rcases i4 with i4 | ⟨t, r, h1, h2⟩
      · rw [i4] at i0; omega
      · exact ⟨_, h1, h2⟩
theorem allFit_drop {wd : Int} {l : List ByteArray} (h : allFit wd l) (k : Nat) : allFit wd (l.drop k) := fun x hx => h x (List.mem_of_mem_drop hx)
theorem best_cost {wd : Int} {l : List ByteArray} {e : Gs} (h : allFit wd l) (hb : Best wd l e) : costG wd e = lF wd l := by
  obtain ⟨_, h2, w, h3, h4⟩ := lF_facts h
  have h5 := h2 e hb.1
  rcases hb.2 w h3 with h6 | ⟨h6, _⟩ <;> omega

/-- what a first line of j words costs, and those behind it -/
def vL (wd : Int) (m : List ByteArray) (j : Nat) : Int := if j = m.length then 0 else lF wd (m.drop j) + sqL wd (m.take j)
theorem vL_way {wd : Int} {m : List ByteArray} {g : List ByteArray} {r : Gs} (hall : allFit wd m) (hs : m = g ++ m.drop g.length) (hr : isWay wd (m.drop g.length) r) : vL wd m g.length ≤ costG wd (g :: r) := by
  unfold vL
  by_cases e : g.length = m.length
  · rw [if_pos e]; exact costG_nn _ _
  · rw [if_neg e]
    have hne : m.drop g.length ≠ [] := by
      intro e2
      have := congrArg List.length e2
      have h3 := congrArg List.length hs
      simp at this h3
      omega
    rw [costG_cons wd g (isWay_ne hr hne)]
    have := (lF_facts (allFit_drop hall g.length)).2.1 r hr
    have e3 : m.take g.length = g := by rw [hs]; simp
    rw [e3]; omega
theorem vL_ge {wd : Int} {m : List ByteArray} {j : Nat} (hall : allFit wd m) (h0 : 0 < j) (hj : j ≤ m.length) (hf : fitL wd (m.take j) = true) : lF wd m ≤ vL wd m j ∧ ∀ e, Best wd (m.drop j) e → isWay wd m (m.take j :: e) ∧ costG wd (m.take j :: e) = vL wd m j := by
  have hne : m.take j ≠ [] := by
    intro e
    have := congrArg List.length e
    rw [List.length_take, List.length_nil] at this
    omega
  have key : ∀ e, isWay wd (m.drop j) e → isWay wd m (m.take j :: e) := by
    intro e he
    have := isWay_cons.2 ⟨hne, hf, he⟩
    rwa [List.take_append_drop] at this
  have hcost : ∀ e, isWay wd (m.drop j) e → costG wd e = lF wd (m.drop j) → costG wd (m.take j :: e) = vL wd m j := by
    intro e he hc
    unfold vL
    by_cases ej : j = m.length
    · rw [if_pos ej]
      have : m.drop j = [] := by rw [ej]; simp
      rw [this] at he
      rw [isWay_of_nil he]; rfl
    · rw [if_neg ej]
      have hne2 : m.drop j ≠ [] := by
        intro e2
        have := congrArg List.length e2
        simp at this; omega
      rw [costG_cons wd _ (isWay_ne he hne2), hc]; omega
  refine ⟨?_, fun e he => ⟨key e he.1, hcost e he.1 (best_cost (allFit_drop hall j) he)⟩⟩
  obtain ⟨_, _, w, h3, h4⟩ := lF_facts (allFit_drop hall j)
  have := (lF_facts hall).2.1 _ (key w h3)
  rw [hcost w h3 h4] at this
  exact this
/-- one line more of the least ragged ones -/
theorem best_step {wd : Int} {m : List ByteArray} {j : Nat} {e : Gs} (hall : allFit wd m) (h0 : 0 < j) (hj : j ≤ m.length) (hf : fitL wd (m.take j) = true) (hv : vL wd m j = lF wd m)
    (hlast : ∀ i, j < i → i ≤ m.length → fitL wd (m.take i) = true → vL wd m i ≠ lF wd m) (he : Best wd (m.drop j) e) : Best wd m (m.take j :: e) := by
  obtain ⟨hw, hc⟩ := (vL_ge hall h0 hj hf).2 e he
  have hm : m ≠ [] := by intro e2; subst e2; simp at hj; omega
  refine ⟨hw, fun w hww => ?_⟩
  have hle := (lF_facts hall).2.1 w hww
  by_cases hlt : costG wd (m.take j :: e) < costG wd w
  · exact .inl hlt
  · have heq : costG wd w = lF wd m := by omega
    refine .inr ⟨by omega, ?_⟩
    obtain ⟨g, r, ew, hg, hgf, es, hr⟩ := isWay_split hww hm
    have hgl : g.length ≤ m.length := by
      have := congrArg List.length es; simp at this; omega
    have hgp : 0 < g.length := List.length_pos_iff.2 hg
    have eg : m.take g.length = g := by rw [es]; simp
    have h1 := vL_way hall es hr
    rw [← ew] at h1
    have h2 := (vL_ge hall hgp hgl (by rw [eg]; exact hgf)).1
    have h3 : vL wd m g.length = lF wd m := by omega
    have hgj : g.length ≤ j := by
      rcases Nat.lt_or_ge j g.length with h | h
      · exact absurd h3 (hlast _ h hgl (by rw [eg]; exact hgf))
      · exact h
    subst ew
    have hlj : (m.take j).length = j := by rw [List.length_take]; omega
    by_cases e2 : g.length = j
    · have e3 : m.take j = g := by rw [← e2]; exact eg
      have e4 : m.drop j = m.drop g.length := by rw [e2]
      rw [e4] at he
      rcases he.2 r hr with h6 | ⟨h6, h7⟩
      · exfalso
        have hrne : m.drop g.length ≠ [] := by
          intro e5
          rw [e5] at hr he
          rw [isWay_of_nil hr, isWay_of_nil he.1] at h6
          omega
        rw [e3, costG_cons wd g (isWay_ne he.1 hrne)] at hc
        rw [costG_cons wd g (isWay_ne hr hrne)] at heq
        rw [e2] at h3
        omega
      · rw [e3]
        rcases h7 with h7 | h7
        · exact .inl (by rw [h7])
        · exact .inr (by unfold fuller; rw [if_pos rfl]; exact h7)
    · exact .inr (by unfold fuller; rw [if_neg (by omega)]; exact decide_eq_true (by omega))
/-- there is a first line of the least cost -/
theorem best_there {wd : Int} {m : List ByteArray} (hall : allFit wd m) (hm : m ≠ []) : ∃ j, 0 < j ∧ j ≤ m.length ∧ fitL wd (m.take j) = true ∧ vL wd m j = lF wd m := by
  obtain ⟨_, _, w, hw, hc⟩ := lF_facts hall
  obtain ⟨g, r, ew, hg, hgf, es, hr⟩ := isWay_split hw hm
  have hgl : g.length ≤ m.length := by
    have := congrArg List.length es; simp at this; omega
  have hgp : 0 < g.length := List.length_pos_iff.2 hg
  have eg : m.take g.length = g := by rw [es]; simp
  have h1 := vL_way hall es hr
  rw [← ew, hc] at h1
  have h2 := (vL_ge hall hgp hgl (by rw [eg]; exact hgf)).1
  exact ⟨g.length, hgp, hgl, by rw [eg]; exact hgf, by omega⟩

/-- every way is one of those that bits tell -/
theorem way_bits {wd : Int} : ∀ (l : List ByteArray) (w : Gs), isWay wd l w → ∃ b, b < 2 ^ (l.length - 1) ∧ wayB b l l.length = w
  | [], w, h => ⟨0, by decide, by rw [isWay_of_nil h]; rfl⟩
  | [x], w, h => by
    refine ⟨0, Nat.two_pow_pos _, ?_⟩
    obtain ⟨g, r, ew, hg, _, es, hr⟩ := isWay_split h (by simp)
    have hgl : g.length = 1 := by
      have := congrArg List.length es
      have h0 : 0 < g.length := List.length_pos_iff.2 hg
      simp at this; omega
    have e1 : g = [x] := by
      have : [x].take g.length = g := by rw [es]; simp
      rw [← this, hgl]; rfl
    have e2 : [x].drop g.length = [] := by rw [hgl]; rfl
    rw [e2] at hr
    rw [ew, isWay_of_nil hr, e1]; rfl
  | x :: y :: l, w, h => by
    obtain ⟨g, r, ew, hg, hgf, es, hr⟩ := isWay_split h (by simp)
    have hlen : (x :: y :: l).length - 1 = (y :: l).length - 1 + 1 := rfl
    cases g with
    | nil => exact absurd rfl hg
    | cons a t =>
      have ea : a = x := by
        have := congrArg List.head? es
        simpa using this.symm
      subst ea
      by_cases ht : t = []
      · subst ht
        have hr' : isWay wd (y :: l) r := hr
        obtain ⟨b, hb, hw⟩ := way_bits (y :: l) r hr'
        refine ⟨2 * b + 1, by rw [hlen, Nat.pow_succ]; omega, ?_⟩
        rw [show (a :: y :: l).length = l.length + 2 from rfl, wayB_cons, (half_odd b).1, (half_odd b).2, if_pos rfl]
        rw [show (y :: l).length = l.length + 1 from rfl] at hw
        rw [hw, ew]
      · have es2 : y :: l = t ++ (y :: l).drop t.length := by
          have := es
          simpa using this
        have hr' : isWay wd (y :: l) (t :: r) := by
          have h2 : isWay wd (t ++ (y :: l).drop t.length) (t :: r) := by
            refine isWay_cons.2 ⟨ht, ?_, by simpa using hr⟩
            have hmono : ∀ (c : List ByteArray), fitL wd c = true → fitL wd (c.drop 1) = true := by
              intro c hc
              unfold fitL at hc ⊢
              rw [decide_eq_true_eq] at hc ⊢
              have : szJ (c.drop 1) ≤ szJ c := by
                cases c with
                | nil => exact Nat.le_refl _
                | cons p q =>
                  cases q with
                  | nil => simp only [List.drop_succ_cons, List.drop_zero]; unfold szJ; rw [joinB_nil]; exact Nat.zero_le _
                  | cons p2 q2 =>
                    simp only [List.drop_succ_cons, List.drop_zero]
                    unfold szJ joinB
                    rw [bs_size, bs_size, show toL (p :: p2 :: q2) = p.data.toList :: toL (p2 :: q2) from rfl, show toL (p2 :: q2) = p2.data.toList :: toL q2 from rfl, Lib.join_cons, Lib.join_cons]
                    simp only [List.length_append, Lib.joinTail, List.map_cons, List.flatten_cons]
                    omega
              omega
            exact hmono (a :: t) hgf
          rwa [← es2] at h2
        obtain ⟨b, hb, hw⟩ := way_bits (y :: l) (t :: r) hr'
        refine ⟨2 * b, by rw [hlen, Nat.pow_succ]; omega, ?_⟩
        rw [show (a :: y :: l).length = l.length + 2 from rfl, wayB_cons, (half_even b).1, (half_even b).2, if_neg (by omega)]
        rw [show (y :: l).length = l.length + 1 from rfl] at hw
        rw [hw, ew]; rfl
theorem wayB_way {wd : Int} (b : Nat) (l : List ByteArray) (h : fitG wd (wayB b l l.length) = true) : isWay wd l (wayB b l l.length) :=
  ⟨by unfold wayB; rw [grW_flatten _ _ _ (Nat.le_refl _), List.take_length], grW_full _ _ _, h⟩

/-- what the search over the bits has found, behind m of them -/
def BInv (wd : Int) (l : List ByteArray) (m : Nat) (best : Gs) (least : Int) : Prop :=
  (least = -1 ∧ best = [] ∧ ∀ b, b < m → fitG wd (wayB b l l.length) = false) ∨
  (least = costG wd best ∧ isWay wd l best ∧ ∀ b, b < m → fitG wd (wayB b l l.length) = true → better wd best (wayB b l l.length))
theorem binv_start (wd : Int) (l : List ByteArray) : BInv wd l 0 [] (-1) := .inl ⟨rfl, rfl, fun _ h => absurd h (by omega)⟩
theorem binv_skip {wd : Int} {l : List ByteArray} {m : Nat} {best : Gs} {least : Int} (h : BInv wd l m best least) (hf : fitG wd (wayB m l l.length) = false) : BInv wd l (m + 1) best least := by
  rcases h with ⟨h1, h2, h3⟩ | ⟨h1, h2, h3⟩
  · refine .inl ⟨h1, h2, fun b hb => ?_⟩
    by_cases e : b = m
    · subst e; exact hf
    · exact h3 b (by omega)
  · refine .inr ⟨h1, h2, fun b hb hb2 => ?_⟩
    by_cases e : b = m
    · subst e; rw [hf] at hb2; cases hb2
    · exact h3 b (by omega) hb2
theorem binv_keep {wd : Int} {l : List ByteArray} {m : Nat} {best : Gs} {least : Int} (h : BInv wd l m best least) (hl : ¬ least < 0) (hk : better wd best (wayB m l l.length)) : BInv wd l (m + 1) best least := by
  rcases h with ⟨h1, _, _⟩ | ⟨h1, h2, h3⟩
  · omega
  · refine .inr ⟨h1, h2, fun b hb hb2 => ?_⟩
    by_cases e : b = m
    · subst e; exact hk
    · exact h3 b (by omega) hb2
theorem binv_take {wd : Int} {l : List ByteArray} {m : Nat} {best : Gs} {least : Int} (h : BInv wd l m best least) (hf : fitG wd (wayB m l l.length) = true)
    (hk : least < 0 ∨ better wd (wayB m l l.length) best) : BInv wd l (m + 1) (wayB m l l.length) (costG wd (wayB m l l.length)) := by
  refine .inr ⟨rfl, wayB_way m l hf, fun b hb hb2 => ?_⟩
  by_cases e : b = m
  · subst e; exact better_refl _ _
  · rcases h with ⟨h1, _, h3⟩ | ⟨h1, h2, h3⟩
    · rw [h3 b (by omega)] at hb2; cases hb2
    · rcases hk with hk | hk
      · have := costG_nn wd best; omega
      · exact better_trans hk (h3 b (by omega) hb2)
theorem binv_done {wd : Int} {l : List ByteArray} {best : Gs} {least : Int} (h : BInv wd l (2 ^ (l.length - 1)) best least) (hl : ¬ least < 0) : Best wd l best := by
  rcases h with ⟨h1, _, _⟩ | ⟨h1, h2, h3⟩
  · omega
  · refine ⟨h2, fun w hw => ?_⟩
    obtain ⟨b, hb, e⟩ := way_bits l w hw
    have := h3 b hb (by rw [e]; exact hw.2.2)
    rwa [e] at this
theorem binv_none {wd : Int} {l : List ByteArray} {best : Gs} {least : Int} (h : BInv wd l (2 ^ (l.length - 1)) best least) (hl : least < 0) (w : Gs) : ¬ isWay wd l w := by
  intro hw
  rcases h with ⟨_, _, h3⟩ | ⟨h1, _, _⟩
  · obtain ⟨b, hb, e⟩ := way_bits l w hw
    have := h3 b hb
    rw [e, hw.2.2] at this; cases this
  · have := costG_nn wd best; omega
end Go.Proofs.Ytoeejepamlnkkaa.pl
