/- Plain mathematics: how many words fit, shortened texts, and lines of words with spaces ahead. -/
import Derived.Test.YtoeejepamlnkkaaPlainX
import Derived.Test.YtoeejepamlnkkaaPlainD
namespace Go.Proofs.Ytoeejepamlnkkaa.pl

theorem szJ_grow : ∀ (t g : List ByteArray), szJ g ≤ szJ (g ++ t)
  | [], g => by simp
  | x :: t, g => by
    have h1 := szJ_le_snoc g x
    have h2 := szJ_grow t (g ++ [x])
    rw [List.append_assoc] at h2
    exact Nat.le_trans h1 h2
theorem szJ_upto {l : List ByteArray} {j k : Nat} (h : j ≤ k) : szJ (l.take j) ≤ szJ (l.take k) := by
  have e : l.take k = l.take j ++ (l.take k).drop j := by
    conv => lhs; rw [← List.take_append_drop j (l.take k)]
    rw [List.take_take, Nat.min_eq_left h]
  rw [e]; exact szJ_grow _ _
/-- the greatest number up to n of words, from the first one on, that fit -/
def cfT (wd : Int) (l : List ByteArray) : Nat → Nat
  | 0 => 0
  | n + 1 => if (szJ (l.take (n + 1)) : Int) ≤ wd then n + 1 else cfT wd l n
def cfit (wd : Int) (l : List ByteArray) : Nat := cfT wd l l.length
theorem cfT_le (wd : Int) (l : List ByteArray) : ∀ n, cfT wd l n ≤ n
  | 0 => Nat.le_refl _
  | n + 1 => by unfold cfT; split; exact Nat.le_refl _; have := cfT_le wd l n; omega
theorem cfit_le (wd : Int) (l : List ByteArray) : cfit wd l ≤ l.length := cfT_le _ _ _
theorem cfT_fits (wd : Int) (l : List ByteArray) : ∀ n, 0 < cfT wd l n → (szJ (l.take (cfT wd l n)) : Int) ≤ wd
  | 0, h => absurd h (by unfold cfT; omega)
  | n + 1, h => by
    unfold cfT at h ⊢
    split
    · assumption
    · rename_i h2; rw [if_neg h2] at h; exact cfT_fits wd l n h
theorem cfit_fits {wd : Int} {l : List ByteArray} (h : 0 < cfit wd l) : (szJ (l.take (cfit wd l)) : Int) ≤ wd := cfT_fits _ _ _ h
theorem cfT_at {wd : Int} {l : List ByteArray} {k : Nat} (h1 : 0 < k → (szJ (l.take k) : Int) ≤ wd) (h2 : wd < (szJ (l.take (k + 1)) : Int)) : ∀ d, cfT wd l (k + d) = k
  | 0 => by
    cases k with
    | zero => rfl
    | succ k => unfold cfT; rw [if_pos (h1 (by omega))]
  | d + 1 => by
    rw [← Nat.add_assoc]
    unfold cfT
    rw [if_neg (by have := szJ_upto (l := l) (j := k + 1) (k := k + d + 1) (by omega); omega)]
    exact cfT_at h1 h2 d
theorem cfit_at {wd : Int} {l : List ByteArray} {k : Nat} (hk : k < l.length) (h1 : 0 < k → (szJ (l.take k) : Int) ≤ wd) (h2 : wd < (szJ (l.take (k + 1)) : Int)) : cfit wd l = k := by
  unfold cfit
  have := cfT_at h1 h2 (l.length - k)
  rwa [Nat.add_sub_cancel' (by omega)] at this
theorem cfit_all {wd : Int} {l : List ByteArray} (h : 0 < l.length → (szJ l : Int) ≤ wd) : cfit wd l = l.length := by
  unfold cfit
  cases hl : l.length with
  | zero => rfl
  | succ n => unfold cfT; rw [if_pos (by rw [← hl, List.take_length]; exact h (by omega))]
theorem cfit_next {wd : Int} {l : List ByteArray} (h : cfit wd l < l.length) : wd < (szJ (l.take (cfit wd l + 1)) : Int) := by
  have key : ∀ n, cfT wd l n < n → wd < (szJ (l.take (cfT wd l n + 1)) : Int) := by
    intro n
    induction n with
    | zero => intro h; omega
    | succ n ih =>
      unfold cfT
      split
      · intro h; omega
      · rename_i h2
        intro _
        by_cases e : cfT wd l n < n
        · exact ih e
        · have : cfT wd l n = n := by have := cfT_le wd l n; omega
          rw [this]; omega
  exact key _ h
/-- the sizes of the words from the first one on -/
theorem szJ_step {l : List ByteArray} {k : Nat} {x : ByteArray} (hk : k < l.length) (hx : nth l k = x) : szJ (l.take (k + 1)) = if k = 0 then x.size else szJ (l.take k) + 1 + x.size := by
  rw [List.take_succ_eq_append_getElem hk, ← nth_eq hk, hx]
  by_cases h : k = 0
  · subst h; rw [if_pos rfl, List.take_zero, List.nil_append, szJ_one]
  · rw [if_neg h, szJ_snoc (by intro e; have := congrArg List.length e; rw [List.length_take, List.length_nil] at this; omega)]

/-- a shortened text -/
def shortOK (s : ByteArray) (wd : Int) (sg : ByteArray) : Bool := validT s.data.toList && validT sg.data.toList && inR wd 0 120 && (decide (((foldB s).size : Int) ≤ wd) || decide ((sg.size : Int) ≤ wd))
def shortC (s : ByteArray) (wd : Int) (sg : ByteArray) : ByteArray := joinB ((wordsOf s).take (cfit (wd - sg.size) (wordsOf s))) sp1 ++ sg
def shortB (s : ByteArray) (wd : Int) (sg : ByteArray) : ByteArray := if shortOK s wd sg = true then (if ((foldB s).size : Int) ≤ wd then foldB s else shortC s wd sg) else bs []
theorem shortOK_no {s : ByteArray} {wd : Int} {sg : ByteArray} (h : validT s.data.toList = false ∨ validT sg.data.toList = false ∨ inR wd 0 120 = false ∨ (wd < ((foldB s).size : Int) ∧ wd < (sg.size : Int))) : shortOK s wd sg = false := by
  unfold shortOK
  rcases h with h | h | h | ⟨h1, h2⟩
  · simp [h]
  · simp [h]
  · simp [h]
  · rw [decide_eq_false (by omega), decide_eq_false (by omega)]; simp
theorem shortOK_yes {s : ByteArray} {wd : Int} {sg : ByteArray} (h1 : validT s.data.toList = true) (h2 : validT sg.data.toList = true) (h3 : inR wd 0 120 = true) (h : ((foldB s).size : Int) ≤ wd ∨ (sg.size : Int) ≤ wd) : shortOK s wd sg = true := by
  unfold shortOK
  rw [h1, h2, h3]
  rcases h with h | h
  · rw [decide_eq_true h]; rfl
  · rw [decide_eq_true h]; simp
theorem shortB_no {s : ByteArray} {wd : Int} {sg : ByteArray} (h : shortOK s wd sg = false) : shortB s wd sg = bs [] := by simp [shortB, h]
theorem shortB_fold {s : ByteArray} {wd : Int} {sg : ByteArray} (h : shortOK s wd sg = true) (h2 : ((foldB s).size : Int) ≤ wd) : shortB s wd sg = foldB s := by
  unfold shortB; rw [if_pos h, if_pos h2]
theorem shortB_cut {s : ByteArray} {wd : Int} {sg : ByteArray} (h : shortOK s wd sg = true) (h2 : wd < ((foldB s).size : Int)) : shortB s wd sg = shortC s wd sg := by
  unfold shortB; rw [if_pos h, if_neg (by omega)]
theorem fold_szJ (s : ByteArray) : (foldB s).size = szJ (wordsOf s) := rfl
theorem short_lt {s : ByteArray} {wd : Int} {sg : ByteArray} (h : wd < ((foldB s).size : Int)) (h2 : (sg.size : Int) ≤ wd) : cfit (wd - sg.size) (wordsOf s) < (wordsOf s).length := by
  have h1 := cfit_le (wd - sg.size) (wordsOf s)
  rcases Nat.lt_or_ge (cfit (wd - sg.size) (wordsOf s)) (wordsOf s).length with h3 | h3
  · exact h3
  · exfalso
    have e : cfit (wd - sg.size) (wordsOf s) = (wordsOf s).length := by omega
    by_cases h0 : 0 < cfit (wd - sg.size) (wordsOf s)
    · have h4 := cfit_fits h0
      rw [e, List.take_length, ← fold_szJ] at h4
      omega
    · have hl : (wordsOf s) = [] := List.length_eq_zero_iff.1 (by omega)
      rw [fold_szJ, hl] at h
      unfold szJ at h
      rw [joinB_nil, bs_size] at h
      simp at h
      omega
/-- the model's way: from many words down -/
def dnInv (s : ByteArray) (wd : Int) (sg : ByteArray) (k : Nat) : Prop := k ≤ (wordsOf s).length ∧ wd - sg.size < (szJ ((wordsOf s).take k) : Int)
theorem dn_start {s : ByteArray} {wd : Int} {sg : ByteArray} (h : wd < ((foldB s).size : Int)) : dnInv s wd sg (wordsOf s).length := by
  refine ⟨Nat.le_refl _, ?_⟩
  rw [List.take_length, ← fold_szJ]; omega
theorem dn_found {s : ByteArray} {wd : Int} {sg : ByteArray} {k : Nat} (h : dnInv s wd sg (k + 1)) (h2 : ((jn (wordsOf s) sp1 k ++ sg).size : Int) ≤ wd) : cfit (wd - sg.size) (wordsOf s) = k := by
  refine cfit_at (by have := h.1; omega) (fun _ => ?_) h.2
  rw [ByteArray.size_append] at h2
  have : (jn (wordsOf s) sp1 k).size = szJ ((wordsOf s).take k) := rfl
  omega
theorem dn_next {s : ByteArray} {wd : Int} {sg : ByteArray} {k : Nat} (h : dnInv s wd sg (k + 1)) (h2 : ¬ ((jn (wordsOf s) sp1 k ++ sg).size : Int) ≤ wd) : dnInv s wd sg k := by
  refine ⟨by have := h.1; omega, ?_⟩
  rw [ByteArray.size_append] at h2
  have : (jn (wordsOf s) sp1 k).size = szJ ((wordsOf s).take k) := rfl
  omega
theorem dn_end {s : ByteArray} {wd : Int} {sg : ByteArray} (h : dnInv s wd sg 0) : wd < (sg.size : Int) := by
  have := h.2
  rw [List.take_zero] at this
  unfold szJ at this
  rw [joinB_nil, bs_size] at this
  simp at this
  omega

/-- greedy lines: as many words as fit, and then those of the others -/
theorem greedy_run {wd : Int} {l : List ByteArray} : ∀ k, 0 < k → k ≤ cfit wd l → greedy wd l k = [l.take k]
  | 0, h, _ => absurd h (by omega)
  | 1, _, hk => by
    have h1 := cfit_le wd l
    rw [greedy_first, nth_eq (by omega), List.take_succ_eq_append_getElem (by omega)]; rfl
  | k + 2, _, hk => by
    have h1 := cfit_le wd l
    have ih := greedy_run (wd := wd) (l := l) (k + 1) (by omega) (by omega)
    have hf := cfit_fits (wd := wd) (l := l) (by omega)
    have hm := szJ_upto (l := l) (j := k + 2) (k := cfit wd l) hk
    have hs := szJ_step (l := l) (k := k + 1) (by omega) rfl
    rw [if_neg (by omega)] at hs
    have hs' : szJ (l.take (k + 2)) = szJ (l.take (k + 1)) + 1 + (nth l (k + 1)).size := hs
    have e2 : l.take (k + 2) = l.take (k + 1) ++ [nth l (k + 1)] := by rw [nth_eq (show k + 1 < l.length by omega)]; exact List.take_succ_eq_append_getElem (by omega)
    have := greedy_more (wd := wd) (l := l) (k := k + 1) [] (l.take (k + 1)) (by rw [ih]; rfl) (by omega)
    rw [e2]
    exact this
theorem greedy_rest {wd : Int} {l : List ByteArray} (h0 : 0 < cfit wd l) : ∀ d, 0 < d → cfit wd l + d ≤ l.length → greedy wd l (cfit wd l + d) = l.take (cfit wd l) :: greedy wd (l.drop (cfit wd l)) d
  | 0, h, _ => absurd h (by omega)
  | 1, _, hd => by
    have e := greedy_run (wd := wd) (l := l) _ h0 (Nat.le_refl _)
    have hn := cfit_next (wd := wd) (l := l) (by omega)
    have hs := szJ_step (l := l) (k := cfit wd l) (by omega) rfl
    rw [if_neg (by omega)] at hs
    have := greedy_new (wd := wd) (l := l) (k := cfit wd l) [] (l.take (cfit wd l)) (by rw [e]; rfl) (by omega)
    rw [this, greedy_first, nth_eq (by omega), nth_eq (by rw [List.length_drop]; omega)]
    simp
  | d + 2, _, hd => by
    have ih := greedy_rest h0 (d + 1) (by omega) (by omega)
    obtain ⟨D, C, hDC, _⟩ := greedy_snoc wd (l.drop (cfit wd l)) (k := d + 1) (by omega)
    have hnx : nth l (cfit wd l + (d + 1)) = nth (l.drop (cfit wd l)) (d + 1) := by
      rw [nth_eq (by omega), nth_eq (by rw [List.length_drop]; omega), List.getElem_drop]
    rw [hDC] at ih
    by_cases hf : (szJ C : Int) + 1 + (nth (l.drop (cfit wd l)) (d + 1)).size ≤ wd
    · have a1 := greedy_more (wd := wd) (l := l.drop (cfit wd l)) (k := d + 1) D C hDC hf
      have a2 := greedy_more (wd := wd) (l := l) (k := cfit wd l + (d + 1)) (l.take (cfit wd l) :: D) C (by rw [ih]; rfl) (by rw [hnx]; exact hf)
      rw [show cfit wd l + (d + 2) = cfit wd l + (d + 1) + 1 by omega, a2, a1, hnx]; rfl
    · have a1 := greedy_new (wd := wd) (l := l.drop (cfit wd l)) (k := d + 1) D C hDC hf
      have a2 := greedy_new (wd := wd) (l := l) (k := cfit wd l + (d + 1)) (l.take (cfit wd l) :: D) C (by rw [ih]; rfl) (by rw [hnx]; exact hf)
      rw [show cfit wd l + (d + 2) = cfit wd l + (d + 1) + 1 by omega, a2, a1, hnx]; rfl
theorem wrapB_run {wd : Int} {l : List ByteArray} (h0 : 0 < cfit wd l) : wrapB wd l = jline (l.take (cfit wd l)) :: wrapB wd (l.drop (cfit wd l)) := by
  have h1 := cfit_le wd l
  unfold wrapB
  rw [List.length_drop]
  by_cases h : cfit wd l = l.length
  · rw [h, Nat.sub_self, ← h, greedy_run _ h0 (Nat.le_refl _)]; rfl
  · have := greedy_rest h0 (l.length - cfit wd l) (by omega) (by omega)
    rw [Nat.add_sub_cancel' h1] at this
    rw [this]; rfl

/-- lines of words with m spaces ahead of the first one, and r ahead of the others -/
def fillS (wd : Int) (r : Nat) : Nat → Nat → List ByteArray → Option (List ByteArray)
  | _, _, [] => some []
  | 0, _, _ :: _ => none
  | f + 1, m, x :: t =>
    if cfit (wd - m) (x :: t) = 0 then none
    else (fillS wd r f r ((x :: t).drop (cfit (wd - m) (x :: t)))).map ((spB m ++ jline ((x :: t).take (cfit (wd - m) (x :: t)))) :: ·)
theorem fillS_nil (wd : Int) (r f m : Nat) : fillS wd r f m [] = some [] := by unfold fillS; rfl
theorem fillS_none {wd : Int} {r f m : Nat} {l : List ByteArray} (hl : l ≠ []) (h : cfit (wd - m) l = 0) : fillS wd r (f + 1) m l = none := by
  cases l with
  | nil => exact absurd rfl hl
  | cons x t => unfold fillS; rw [if_pos h]
theorem fillS_some {wd : Int} {r f m : Nat} {l : List ByteArray} (h : ¬ cfit (wd - m) l = 0) : fillS wd r (f + 1) m l = (fillS wd r f r (l.drop (cfit (wd - m) l))).map ((spB m ++ jline (l.take (cfit (wd - m) l))) :: ·) := by
  cases l with
  | nil => exact absurd rfl h
  | cons x t => conv => lhs; unfold fillS
                rw [if_neg h]
/-- the words that fit are short -/
theorem cfit_short {wd : Int} {l : List ByteArray} {i : Nat} (hi : i < cfit wd l) : ((nth l i).size : Int) ≤ wd := by
  have h1 := cfit_le wd l
  have hf := cfit_fits (wd := wd) (l := l) (by omega)
  have hm := szJ_upto (l := l) (j := i + 1) (k := cfit wd l) (by omega)
  have hs := szJ_step (l := l) (k := i) (by omega) rfl
  split at hs <;> omega
theorem cfit_zero {wd : Int} {l : List ByteArray} (hl : 0 < l.length) (h : cfit wd l = 0) : wd < ((nth l 0).size : Int) := by
  have hn := cfit_next (wd := wd) (l := l) (by omega)
  have hs := szJ_step (l := l) (k := 0) hl rfl
  rw [if_pos rfl] at hs
  rw [h] at hn; omega
theorem fillS_wrap {wd : Int} {r : Nat} : ∀ f (l : List ByteArray), l.length ≤ f → fillS wd r f r l = if shortAll l (wd - r) = true then some ((wrapB (wd - r) l).map (spB r ++ ·)) else none
  | 0, l, h => by
    have : l = [] := List.length_eq_zero_iff.1 (by omega)
    subst this; rw [fillS_nil]; rfl
  | f + 1, l, h => by
    by_cases hl : l = []
    · subst hl; rw [fillS_nil]; rfl
    · have hpos : 0 < l.length := List.length_pos_iff.2 hl
      by_cases h0 : cfit (wd - r) l = 0
      · rw [fillS_none hl h0, if_neg]
        rw [shortAll_no hpos (cfit_zero hpos h0)]; simp
      · have h1 := cfit_le (wd - r) l
        rw [fillS_some h0, fillS_wrap f _ (by rw [List.length_drop]; omega)]
        have hsh : shortAll l (wd - r) = shortAll (l.drop (cfit (wd - r) l)) (wd - r) := by
          conv => lhs; rw [← List.take_append_drop (cfit (wd - r) l) l]
          unfold shortAll
          rw [List.all_append]
          have : (l.take (cfit (wd - r) l)).all (fun x => decide ((x.size : Int) ≤ wd - r)) = true := by
            rw [List.all_eq_true]
            intro x hx
            obtain ⟨i, hi, rfl⟩ := List.getElem_of_mem hx
            rw [List.length_take] at hi
            rw [List.getElem_take, ← nth_eq (by omega)]
            exact decide_eq_true (cfit_short (by omega))
          rw [this, Bool.true_and]
        rw [hsh, wrapB_run (wd := wd - r) (l := l) (by omega)]
        split <;> simp
def fillOK (l : List ByteArray) (wd a b : Int) : Bool :=
  vWords l && inR wd 1 120 && inR a 0 10 && inR b 0 10 && (fillS wd b.toNat (l.length + 1) a.toNat l).isSome
def fillR (l : List ByteArray) (wd a b : Int) : List ByteArray := if fillOK l wd a b = true then (fillS wd b.toNat (l.length + 1) a.toNat l).getD [] else []
theorem fillOK_no {l : List ByteArray} {wd a b : Int} (h : vWords l = false ∨ inR wd 1 120 = false ∨ inR a 0 10 = false ∨ inR b 0 10 = false ∨ fillS wd b.toNat (l.length + 1) a.toNat l = none) : fillOK l wd a b = false := by
  unfold fillOK
  rcases h with h | h | h | h | h <;> simp [h]
theorem fillOK_yes {l : List ByteArray} {wd a b : Int} {o : List ByteArray} (h1 : vWords l = true) (h2 : inR wd 1 120 = true) (h3 : inR a 0 10 = true) (h4 : inR b 0 10 = true) (h5 : fillS wd b.toNat (l.length + 1) a.toNat l = some o) : fillOK l wd a b = true ∧ fillR l wd a b = o := by
  have : fillOK l wd a b = true := by unfold fillOK; rw [h1, h2, h3, h4, h5]; rfl
  exact ⟨this, by unfold fillR; rw [if_pos this, h5]; rfl⟩
theorem fillR_no {l : List ByteArray} {wd a b : Int} (h : fillOK l wd a b = false) : fillR l wd a b = [] := by simp [fillR, h]
end Go.Proofs.Ytoeejepamlnkkaa.pl
