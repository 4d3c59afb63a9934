/- Plain mathematics: all ways to put words into lines, and how many there are. -/
import Derived.Test.YtoeejepamlnkkaaPlainG
namespace Go.Proofs.Ytoeejepamlnkkaa.pl

def fitL (wd : Int) (g : List ByteArray) : Bool := decide ((szJ g : Int) ≤ wd)
def fitG (wd : Int) (gs : Gs) : Bool := gs.all (fitL wd)
/-- bit i of b is 1: a new line opens behind the word i -/
def opB (b : Nat) (k : Nat) (_ : Gs) (_ : ByteArray) : Bool := decide (k = 0) || decide (b / 2 ^ (k - 1) % 2 = 1)
def wayB (b : Nat) (l : List ByteArray) (k : Nat) : Gs := grW (opB b) l k
/-- words ahead of those of the first line -/
def pre (c : List ByteArray) : Gs → Gs
  | [] => [c]
  | g :: r => (c ++ g) :: r

theorem fitG_cons (wd : Int) (g : List ByteArray) (gs : Gs) : fitG wd (g :: gs) = (fitL wd g && fitG wd gs) := rfl
theorem fitG_append (wd : Int) (a b : Gs) : fitG wd (a ++ b) = (fitG wd a && fitG wd b) := by simp [fitG]
theorem fitL_snoc {wd : Int} {c : List ByteArray} {x : ByteArray} (h : fitL wd c = false) : fitL wd (c ++ [x]) = false := by
  unfold fitL at h ⊢
  rw [decide_eq_false_iff_not] at h ⊢
  have := szJ_le_snoc c x
  omega
theorem fitG_put {wd : Int} {gs : Gs} {x : ByteArray} {op : Bool} (h : fitG wd gs = false) : fitG wd (putG gs x op) = false := by
  cases op with
  | true => rw [putG_open, fitG_append, h]; rfl
  | false =>
    by_cases e : gs = []
    · subst e; cases h
    · obtain ⟨d, c, rfl, _⟩ := snocG e
      rw [putG_more]
      rw [fitG_append] at h ⊢
      by_cases hd : fitG wd d = true
      · rw [hd, Bool.true_and, fitG_cons] at h
        have hc : fitL wd c = false := by simpa [fitG] using h
        rw [fitG_cons, fitL_snoc hc]; simp
      · have : fitG wd d = false := by simpa using hd
        rw [this]; rfl
/-- the last line is too long: so is one of those behind one word more -/
theorem fitG_last {wd : Int} {gs : Gs} (h : gs ≠ []) : fitG wd gs = (fitG wd gs.dropLast && fitL wd (lastG gs)) := by
  obtain ⟨d, c, rfl, h2⟩ := snocG h
  rw [h2, fitG_append, List.dropLast_concat]
  simp [fitG]
theorem fitG_put_ok {wd : Int} {gs : Gs} {x : ByteArray} {op : Bool} (h : fitG wd gs = true) (hl : fitL wd (lastG (putG gs x op)) = true) : fitG wd (putG gs x op) = true := by
  rw [fitG_last (putG_ne _ _ _), hl, Bool.and_true]
  cases op with
  | true => rw [putG_open, List.dropLast_concat]; exact h
  | false =>
    by_cases e : gs = []
    · subst e; rfl
    · obtain ⟨d, c, rfl, _⟩ := snocG e
      rw [putG_more, List.dropLast_concat]
      rw [fitG_append] at h
      exact (Bool.and_eq_true _ _ ▸ h).1
theorem fitG_put_no {wd : Int} {gs : Gs} {x : ByteArray} {op : Bool} (hl : fitL wd (lastG (putG gs x op)) = false) : fitG wd (putG gs x op) = false := by
  rw [fitG_last (putG_ne _ _ _), hl, Bool.and_false]
theorem fit_later {wd : Int} {op} {l : List ByteArray} {k : Nat} (h : fitG wd (grW op l k) = false) : ∀ d, fitG wd (grW op l (k + d)) = false
  | 0 => h
  | d + 1 => fitG_put (fit_later h d)

theorem putG_cons {gs : Gs} (a : List ByteArray) (x : ByteArray) (op : Bool) (h : gs ≠ []) : putG (a :: gs) x op = a :: putG gs x op := by
  obtain ⟨d, c, rfl, _⟩ := snocG h
  cases op with
  | true => rfl
  | false => rw [← List.cons_append, putG_more, putG_more]; rfl
theorem putG_pre {gs : Gs} (c : List ByteArray) (x : ByteArray) (op : Bool) (h : gs ≠ []) : putG (pre c gs) x op = pre c (putG gs x op) := by
  cases gs with
  | nil => exact absurd rfl h
  | cons g r =>
    cases r with
    | nil => cases op <;> simp [putG, pre, lastG]
    | cons g2 r2 =>
      rw [show pre c (g :: g2 :: r2) = (c ++ g) :: g2 :: r2 from rfl, putG_cons (gs := g2 :: r2) _ _ _ (by simp), putG_cons (gs := g2 :: r2) g _ _ (by simp)]
      rfl
theorem nth_cons (x : ByteArray) (l : List ByteArray) (k : Nat) : nth (x :: l) (k + 1) = nth l k := by simp [nth]
theorem opB_next (b k : Nat) (a c : Gs) (x : ByteArray) : opB b (k + 2) a x = opB (b / 2) (k + 1) c x := by
  unfold opB
  rw [decide_eq_false (p := k + 2 = 0) (by omega), decide_eq_false (p := k + 1 = 0) (by omega), Bool.false_or, Bool.false_or]
  rw [show k + 2 - 1 = k + 1 from rfl, show k + 1 - 1 = k from rfl, Nat.pow_succ, Nat.mul_comm, Nat.div_div_eq_div_mul]
theorem wayB_cons (b : Nat) (x : ByteArray) (l : List ByteArray) : ∀ k, wayB b (x :: l) (k + 2) = if b % 2 = 1 then [x] :: wayB (b / 2) l (k + 1) else pre [x] (wayB (b / 2) l (k + 1))
  | 0 => by
    have e1 : wayB (b / 2) l 1 = [[nth l 0]] := rfl
    have e2 : wayB b (x :: l) 1 = [[x]] := rfl
    have e3 : wayB b (x :: l) 2 = putG [[x]] (nth l 0) (opB b 1 [[x]] (nth l 0)) := by
      show putG (wayB b (x :: l) 1) (nth (x :: l) 1) _ = _
      rw [e2, nth_cons]; rfl
    have e4 : opB b 1 [[x]] (nth l 0) = decide (b % 2 = 1) := by simp [opB]
    rw [e3, e4, e1]
    by_cases h : b % 2 = 1
    · rw [if_pos h, decide_eq_true h]; rfl
    · rw [if_neg h, decide_eq_false h]; rfl
  | k + 1 => by
    have e : wayB b (x :: l) (k + 3) = putG (wayB b (x :: l) (k + 2)) (nth l (k + 1)) (opB (b / 2) (k + 1) (wayB (b / 2) l (k + 1)) (nth l (k + 1))) := by
      rw [← opB_next b k (wayB b (x :: l) (k + 2))]
      show putG (wayB b (x :: l) (k + 2)) (nth (x :: l) (k + 2)) (opB b (k + 2) _ (nth (x :: l) (k + 2))) = _
      rw [nth_cons]
      rfl
    have e2 : wayB (b / 2) l (k + 2) = putG (wayB (b / 2) l (k + 1)) (nth l (k + 1)) (opB (b / 2) (k + 1) (wayB (b / 2) l (k + 1)) (nth l (k + 1))) := rfl
    have hne : wayB (b / 2) l (k + 1) ≠ [] := grW_ne _ _ (by omega)
    rw [show k + 1 + 2 = k + 3 from rfl, show k + 1 + 1 = k + 2 from rfl, e, e2, wayB_cons b x l k]
    by_cases h : b % 2 = 1
    · rw [if_pos h, if_pos h, putG_cons _ _ _ hne]
    · rw [if_neg h, if_neg h, putG_pre _ _ _ hne]

/-- how many of the first m numbers have p -/
def cntF (p : Nat → Bool) : Nat → Nat
  | 0 => 0
  | m + 1 => cntF p m + (if p m = true then 1 else 0)
theorem cntF_succ (p : Nat → Bool) (m : Nat) : cntF p (m + 1) = cntF p m + (if p m = true then 1 else 0) := rfl
theorem cntF_le (p) : ∀ m, cntF p m ≤ m
  | 0 => Nat.le_refl _
  | m + 1 => by have := cntF_le p m; unfold cntF; split <;> omega
theorem cntF_two (p : Nat → Bool) : ∀ m, cntF p (2 * m) = cntF (fun b => p (2 * b)) m + cntF (fun b => p (2 * b + 1)) m
  | 0 => rfl
  | m + 1 => by
    rw [show 2 * (m + 1) = 2 * m + 1 + 1 from by omega, cntF_succ, cntF_succ, cntF_succ, cntF_succ, cntF_two p m]; omega
theorem cntF_congr {p q : Nat → Bool} : ∀ m, (∀ b, b < m → p b = q b) → cntF p m = cntF q m
  | 0, _ => rfl
  | m + 1, h => by unfold cntF; rw [cntF_congr m (fun b hb => h b (by omega)), h m (by omega)]
theorem cntF_none {p : Nat → Bool} : ∀ m, (∀ b, b < m → p b = false) → cntF p m = 0
  | 0, _ => rfl
  | m + 1, h => by unfold cntF; rw [cntF_none m (fun b hb => h b (by omega)), h m (by omega)]; rfl
theorem cntF_all {p : Nat → Bool} : ∀ m, (∀ b, b < m → p b = true) → cntF p m = m
  | 0, _ => rfl
  | m + 1, h => by unfold cntF; rw [cntF_all m (fun b hb => h b (by omega)), h m (by omega)]; rfl
theorem cntF_some {p : Nat → Bool} {b : Nat} (hb : p b = true) : ∀ m, b < m → 0 < cntF p m
  | 0, h => by omega
  | m + 1, h => by
    unfold cntF
    by_cases e : b = m
    · subst e; rw [if_pos hb]; omega
    · have := cntF_some hb m (by omega); omega

/-- the ways of the words c and those behind them, c in the first line -/
def wS (wd : Int) : List ByteArray → List ByteArray → Nat
  | c, [] => if fitL wd c = true then 1 else 0
  | c, y :: l => if fitL wd c = true then wS wd [y] l + wS wd (c ++ [y]) l else 0
def wF (wd : Int) : List ByteArray → Nat
  | [] => 1
  | x :: l => wS wd [x] l
theorem wS_no {wd : Int} {c : List ByteArray} (h : fitL wd c = false) (l : List ByteArray) : wS wd c l = 0 := by
  cases l <;> simp [wS, h]
theorem wS_nil {wd : Int} {c : List ByteArray} (h : fitL wd c = true) : wS wd c [] = wF wd [] := by simp [wS, wF, h]
theorem wS_cons {wd : Int} {c : List ByteArray} (h : fitL wd c = true) (y : ByteArray) (l : List ByteArray) : wS wd c (y :: l) = wF wd (y :: l) + wS wd (c ++ [y]) l := by simp [wS, wF, h]

def cntP (wd : Int) (c l : List ByteArray) : Nat := cntF (fun b => fitG wd (pre c (wayB b l l.length))) (2 ^ (l.length - 1))
def waysN (wd : Int) (l : List ByteArray) : Nat := cntF (fun b => fitG wd (wayB b l l.length)) (2 ^ (l.length - 1))
theorem pre_nil {gs : Gs} (h : gs ≠ []) : pre [] gs = gs := by
  cases gs with
  | nil => exact absurd rfl h
  | cons g r => rfl
theorem pre_pre (c e : List ByteArray) {gs : Gs} (h : gs ≠ []) : pre c (pre e gs) = pre (c ++ e) gs := by
  cases gs with
  | nil => exact absurd rfl h
  | cons g r => simp [pre]
theorem waysN_pre (wd : Int) (y : ByteArray) (l : List ByteArray) : waysN wd (y :: l) = cntP wd [] (y :: l) := by
  unfold waysN cntP
  apply cntF_congr
  intro b _
  have hne : wayB b (y :: l) (y :: l).length ≠ [] := grW_ne _ _ (by simp)
  rw [pre_nil hne]
theorem half_even (b : Nat) : (2 * b) % 2 = 0 ∧ 2 * b / 2 = b := by omega
theorem half_odd (b : Nat) : (2 * b + 1) % 2 = 1 ∧ (2 * b + 1) / 2 = b := by omega
theorem cntP_eq (wd : Int) : ∀ (l c : List ByteArray) (y : ByteArray), cntP wd c (y :: l) = wS wd (c ++ [y]) l
  | [], c, y => by
    have e : wayB 0 [y] 1 = [[y]] := rfl
    unfold cntP
    rw [show ([y] : List ByteArray).length = 1 from rfl, show 2 ^ (1 - 1) = 0 + 1 from rfl]
    unfold cntF cntF
    rw [e]
    simp [pre, fitG, wS]
  | z :: r, c, y => by
    have hne : ∀ b, wayB b (z :: r) (r.length + 1) ≠ [] := fun b => grW_ne _ _ (by omega)
    have ih1 := cntP_eq wd r (c ++ [y]) z
    have ih2 := cntP_eq wd r [] z
    have e0 : cntP wd c (y :: z :: r) = cntF (fun b => fitG wd (pre c (wayB b (y :: z :: r) (r.length + 2)))) (2 * 2 ^ r.length) := by
      unfold cntP
      rw [show (y :: z :: r).length = r.length + 2 from rfl, show r.length + 2 - 1 = r.length + 1 from rfl, Nat.pow_succ, Nat.mul_comm]
    rw [e0, cntF_two]
    have e1 : cntF (fun b => fitG wd (pre c (wayB (2 * b) (y :: z :: r) (r.length + 2)))) (2 ^ r.length) = wS wd (c ++ [y] ++ [z]) r := by
      rw [← ih1]
      unfold cntP
      apply cntF_congr
      intro b _
      rw [wayB_cons, (half_even b).1, (half_even b).2, if_neg (by omega), pre_pre _ _ (hne b)]
      rfl
    have e2 : cntF (fun b => fitG wd (pre c (wayB (2 * b + 1) (y :: z :: r) (r.length + 2)))) (2 ^ r.length) = if fitL wd (c ++ [y]) = true then wS wd [z] r else 0 := by
      have e3 : ∀ b, fitG wd (pre c (wayB (2 * b + 1) (y :: z :: r) (r.length + 2))) = (fitL wd (c ++ [y]) && fitG wd (wayB b (z :: r) (r.length + 1))) := by
        intro b
        rw [wayB_cons, (half_odd b).1, (half_odd b).2, if_pos rfl]
        rfl
      by_cases hf : fitL wd (c ++ [y]) = true
      · rw [if_pos hf, show wS wd [z] r = wS wd ([] ++ [z]) r from rfl, ← ih2]
        unfold cntP
        apply cntF_congr
        intro b _
        rw [e3, hf, Bool.true_and, show (z :: r).length = r.length + 1 from rfl, pre_nil (hne b)]
      · rw [if_neg hf]
        apply cntF_none
        intro b _
        rw [e3, Bool.eq_false_iff.2 hf, Bool.false_and]
    rw [e1, e2]
    by_cases hf : fitL wd (c ++ [y]) = true
    · rw [if_pos hf, wS_cons hf]
      show _ = wS wd [z] r + _
      omega
    · have hf' : fitL wd (c ++ [y]) = false := by simpa using hf
      rw [if_neg hf, wS_no hf', wS_no (fitL_snoc hf')]
theorem waysN_eq (wd : Int) (l : List ByteArray) : waysN wd l = wF wd l := by
  cases l with
  | nil => rfl
  | cons y r => rw [waysN_pre, cntP_eq]; rfl

/-- how many ways, told by the package and by its model -/
def waysR (l : List ByteArray) (wd : Int) : Int := if (vWords l && inR wd 1 120) = true then (wF wd l : Int) else -1
end Go.Proofs.Ytoeejepamlnkkaa.pl
