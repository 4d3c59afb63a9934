/- Joined texts: PlainFm PlainFf PlainFh. -/
import Derived.Test.YtadlelcckalcoaaPkA
/- Plain: forms as rows of tokens: bytes, and holes by their names. -/
namespace Go.Proofs.Ytadlelcckalcoaa.pl
set_option maxRecDepth 100000
set_option linter.unusedVariables false

abbrev Tok := UInt8 ⊕ List UInt8
def isBr (c : UInt8) : Bool := c == 123 || c == 125
def nameC (c : UInt8) : Bool := decide (97 ≤ c.toNat) && decide (c.toNat ≤ 122)
def nameB (n : List UInt8) : Bool := decide (1 ≤ n.length) && decide (n.length ≤ 8) && n.all nameC
def upTo (r : List UInt8) : List UInt8 := r.takeWhile (fun c => c != 125)
def behind (r : List UInt8) : List UInt8 := (r.dropWhile (fun c => c != 125)).tail
theorem behind_len (r : List UInt8) : (behind r).length ≤ r.length := by
  unfold behind
  rw [List.length_tail]
  have h := (List.dropWhile_suffix (l := r) (fun c : UInt8 => c != 125)).sublist.length_le
  omega
/-- what a text reads as, from the left on -/
def toks : List UInt8 → Option (List Tok)
  | [] => some []
  | c :: r =>
    if isBr c = false then (toks r).map (Sum.inl c :: ·)
    else if r.head? = some c then (toks r.tail).map (Sum.inl c :: ·)
    else if c = 125 then none
    else if r.contains 125 = true ∧ nameB (upTo r) = true then (toks (behind r)).map (Sum.inr (upTo r) :: ·)
    else none
termination_by l => l.length
decreasing_by
  · simp
  · simp; omega
  · have := behind_len r; simp; omega

theorem toks_nil : toks [] = some [] := by rw [toks]
theorem toks_plain {c : UInt8} {r : List UInt8} (h : isBr c = false) : toks (c :: r) = (toks r).map (Sum.inl c :: ·) := by
  rw [toks, if_pos h]
theorem toks_twice {c : UInt8} {r : List UInt8} (h : isBr c = true) : toks (c :: c :: r) = (toks r).map (Sum.inl c :: ·) := by
  rw [toks, if_neg (by rw [h]; simp), if_pos (by simp)]; rfl
theorem toks_close {r : List UInt8} (h : ¬ r.head? = some 125) : toks (125 :: r) = none := by
  rw [toks, if_neg (by decide), if_neg h, if_pos rfl]
theorem toks_bad {r : List UInt8} (h : ¬ r.head? = some 123) (h2 : ¬ (r.contains 125 = true ∧ nameB (upTo r) = true)) : toks (123 :: r) = none := by
  rw [toks, if_neg (by decide), if_neg h, if_neg (by decide), if_neg h2]
theorem toks_open {r : List UInt8} (h : ¬ r.head? = some 123) (h1 : r.contains 125 = true) (h2 : nameB (upTo r) = true) : toks (123 :: r) = (toks (behind r)).map (Sum.inr (upTo r) :: ·) := by
  rw [toks, if_neg (by decide), if_neg h, if_neg (by decide), if_pos ⟨h1, h2⟩]

theorem nameB_parts {n : List UInt8} (h : nameB n = true) : 1 ≤ n.length ∧ n.length ≤ 8 ∧ ∀ c ∈ n, nameC c = true := by
  unfold nameB at h
  simp only [Bool.and_eq_true, decide_eq_true_eq, List.all_eq_true] at h
  exact ⟨h.1.1, h.1.2, h.2⟩
theorem nameC_br {c : UInt8} (h : nameC c = true) : isBr c = false ∧ (c != 125) = true ∧ c ≠ 123 := by
  unfold nameC at h
  simp only [Bool.and_eq_true, decide_eq_true_eq] at h
  have h1 : c ≠ 123 := by rintro rfl; exact absurd h.2 (by decide)
  have h2 : c ≠ 125 := by rintro rfl; exact absurd h.2 (by decide)
  exact ⟨by simp [isBr, h1, h2], by simp [h2], h1⟩
theorem upTo_cut : ∀ {n r : List UInt8}, (∀ c ∈ n, (c != 125) = true) → upTo (n ++ 125 :: r) = n ∧ behind (n ++ 125 :: r) = r
  | [], r, _ => by simp [upTo, behind]
  | c :: n, r, h => by
    have hc := h c List.mem_cons_self
    obtain ⟨h1, h2⟩ := upTo_cut (n := n) (r := r) (fun x hx => h x (List.mem_cons_of_mem _ hx))
    unfold upTo at h1 ⊢
    unfold behind at h2 ⊢
    rw [List.cons_append, List.takeWhile_cons, List.dropWhile_cons, if_pos hc, if_pos hc, h1, h2]
    exact ⟨rfl, rfl⟩
theorem toks_hole {n r : List UInt8} (hn : nameB n = true) : toks (123 :: (n ++ 125 :: r)) = (toks r).map (Sum.inr n :: ·) := by
  obtain ⟨h1, _, hc⟩ := nameB_parts hn
  obtain ⟨hu, hb⟩ := upTo_cut (n := n) (r := r) (fun c hx => (nameC_br (hc c hx)).2.1)
  have hh : ¬ (n ++ 125 :: r).head? = some 123 := by
    cases n with
    | nil => simp at h1
    | cons c n =>
      intro e
      simp at e
      exact (nameC_br (hc c List.mem_cons_self)).2.2 e
  rw [toks_open hh (by simp) (by rw [hu]; exact hn), hu, hb]
/-- a text with a closing bracket is what stands ahead of it, it, and what stands behind -/
theorem cut_at : ∀ {r : List UInt8}, r.contains 125 = true → r = upTo r ++ 125 :: behind r
  | [], h => by simp at h
  | c :: r, h => by
    by_cases e : c = 125
    · subst e; simp [upTo, behind]
    · have h2 : r.contains 125 = true := by
        rw [List.contains_cons] at h
        have : ((125 : UInt8) == c) = false := beq_eq_false_iff_ne.2 (fun x => e x.symm)
        rw [this, Bool.false_or] at h; exact h
      have hc : (c != 125) = true := by simp [e]
      have ih := cut_at h2
      unfold upTo behind at ih ⊢
      rw [List.takeWhile_cons, List.dropWhile_cons, if_pos hc, if_pos hc, List.cons_append, ← ih]
theorem upTo_all : ∀ {r : List UInt8}, r.contains 125 = false → upTo r = r
  | [], _ => rfl
  | c :: r, h => by
    rw [List.contains_cons, Bool.or_eq_false_iff] at h
    have hc : (c != 125) = true := by
      have := h.1
      rw [beq_eq_false_iff_ne] at this
      simp; exact fun e => this e.symm
    have ih := upTo_all h.2
    unfold upTo at ih ⊢
    rw [List.takeWhile_cons, if_pos hc, ih]
theorem map_cons_pre (a : Tok) (p : List Tok) (o : Option (List Tok)) : (o.map (p ++ ·)).map (a :: ·) = o.map ((a :: p) ++ ·) := by cases o <;> rfl
theorem map_pre_pre (p q : List Tok) (o : Option (List Tok)) : (o.map (q ++ ·)).map (p ++ ·) = o.map ((p ++ q) ++ ·) := by
  cases o with
  | none => rfl
  | some l => simp
theorem map_pre_nil (o : Option (List Tok)) : o.map (([] : List Tok) ++ ·) = o := by cases o <;> rfl
/-- bytes that are no brackets stand for themselves -/
theorem toks_run : ∀ {p r : List UInt8}, (∀ c ∈ p, isBr c = false) → toks (p ++ r) = (toks r).map (p.map Sum.inl ++ ·)
  | [], r, _ => by rw [List.nil_append, List.map_nil, map_pre_nil]
  | c :: p, r, h => by
    rw [List.cons_append, toks_plain (h c List.mem_cons_self), toks_run (fun x hx => h x (List.mem_cons_of_mem _ hx)), map_cons_pre]; rfl

def dblK (c : UInt8) : List UInt8 := if isBr c = true then [c, c] else [c]
def dblB (l : List UInt8) : List UInt8 := l.flatMap dblK
theorem dblB_nil : dblB [] = [] := rfl
theorem dblB_cons (c : UInt8) (r : List UInt8) : dblB (c :: r) = dblK c ++ dblB r := rfl
theorem dblB_append (a b : List UInt8) : dblB (a ++ b) = dblB a ++ dblB b := List.flatMap_append
theorem dblK_br {c : UInt8} (h : isBr c = true) : dblK c = [c, c] := by simp [dblK, h]
theorem dblK_no {c : UInt8} (h : isBr c = false) : dblK c = [c] := by simp [dblK, h]
theorem dblK_len (c : UInt8) : (dblK c).length ≤ 2 ∧ 1 ≤ (dblK c).length := by unfold dblK; split <;> simp
theorem dblB_len : ∀ l : List UInt8, (dblB l).length ≤ 2 * l.length ∧ l.length ≤ (dblB l).length
  | [] => by simp [dblB]
  | c :: r => by
    rw [dblB_cons, List.length_append, List.length_cons]
    have := dblK_len c
    have := dblB_len r
    omega
/-- brackets that stand twice stand for one -/
theorem toks_dbl : ∀ (l r : List UInt8), toks (dblB l ++ r) = (toks r).map (l.map Sum.inl ++ ·)
  | [], r => by rw [dblB_nil, List.nil_append, List.map_nil, map_pre_nil]
  | c :: l, r => by
    rw [dblB_cons, List.append_assoc]
    cases h : isBr c with
    | true => rw [dblK_br h, List.cons_append, List.cons_append, List.nil_append, toks_twice h, toks_dbl l r, map_cons_pre]; rfl
    | false => rw [dblK_no h, List.cons_append, List.nil_append, toks_plain h, toks_dbl l r, map_cons_pre]; rfl
theorem dblB_mem {l : List UInt8} {c : UInt8} (h : c ∈ l) : c ∈ dblB l := by
  unfold dblB
  rw [List.mem_flatMap]
  exact ⟨c, h, by unfold dblK; split <;> simp⟩
theorem dblB_of {l : List UInt8} {c : UInt8} (h : c ∈ dblB l) : c ∈ l := by
  unfold dblB at h
  rw [List.mem_flatMap] at h
  obtain ⟨a, ha, hc⟩ := h
  have : c = a := by unfold dblK at hc; split at hc <;> simpa using hc
  rw [this]; exact ha
theorem dblB_valid {l : List UInt8} (h : validT l = false) : validT (dblB l) = false := by
  cases hd : validT (dblB l) with
  | false => rfl
  | true =>
    unfold validT at h hd
    rw [Bool.and_eq_true] at hd
    have h1 : l.all plainB = true := List.all_eq_true.2 (fun c hc => List.all_eq_true.1 hd.1 c (dblB_mem hc))
    have h2 := of_decide_eq_true hd.2
    have h3 := (dblB_len l).2
    rw [h1, decide_eq_true (by omega)] at h
    cases h

/-- the names of the holes -/
def holesT (ts : List Tok) : List (List UInt8) := ts.filterMap (fun t => match t with | .inl _ => none | .inr n => some n)
theorem holesT_append (a b : List Tok) : holesT (a ++ b) = holesT a ++ holesT b := List.filterMap_append
theorem holesT_bytes (l : List UInt8) : holesT (l.map Sum.inl) = [] := by
  unfold holesT
  rw [List.filterMap_map]
  exact List.filterMap_eq_nil_iff.2 (fun a _ => rfl)
theorem holesT_hole (n : List UInt8) : holesT [Sum.inr n] = [n] := rfl
/-- all holes have names -/
def named (ts : List Tok) : Prop := ∀ n, Sum.inr n ∈ ts → nameB n = true
theorem named_nil : named [] := fun n h => by cases h
theorem named_cons {t : Tok} {ts : List Tok} (h : named ts) (ht : ∀ n, t = Sum.inr n → nameB n = true) : named (t :: ts) := by
  intro n hn
  rcases List.mem_cons.1 hn with e | e
  · exact ht n e.symm
  · exact h n e
theorem toks_named : ∀ (n : Nat) (l : List UInt8), l.length ≤ n → ∀ ts, toks l = some ts → named ts ∧ ts.length ≤ l.length
  | n, [], _, ts, h => by rw [toks_nil] at h; cases h; exact ⟨named_nil, Nat.le_refl _⟩
  | 0, c :: r, hl, ts, h => by simp at hl
  | n + 1, c :: r, hl, ts, h => by
    have hl' : r.length ≤ n := by simpa using hl
    have push : ∀ (t : Tok) (m : List UInt8), m.length ≤ r.length → (∀ x, t = Sum.inr x → nameB x = true) → (toks m).map (t :: ·) = some ts → named ts ∧ ts.length ≤ (c :: r).length := by
      intro t m hm ht e
      rw [Option.map_eq_some_iff] at e
      obtain ⟨us, hu, rfl⟩ := e
      obtain ⟨h1, h2⟩ := toks_named n m (by omega) us hu
      exact ⟨named_cons h1 ht, by simp; omega⟩
    rw [toks] at h
    split at h
    · exact push _ r (Nat.le_refl _) (fun x e => by cases e) h
    · split at h
      · exact push _ r.tail (by simp) (fun x e => by cases e) h
      · split at h
        · cases h
        · split at h
          · rename_i hh
            exact push _ _ (behind_len r) (fun x e => by cases e; exact hh.2) h
          · cases h
end Go.Proofs.Ytadlelcckalcoaa.pl

/- Plain: forms filled. -/
namespace Go.Proofs.Ytadlelcckalcoaa.pl
set_option maxRecDepth 100000
set_option linter.unusedVariables false

/-- what a text reads as, if it is a form -/
def formT (s : List UInt8) : Option (List Tok) :=
  if validT s = true then (toks s).bind (fun ts => if (holesT ts).length ≤ 5 then some ts else none) else none
def formB (s : ByteArray) : Bool := (formT s.data.toList).isSome
theorem formT_text {s : List UInt8} (h : validT s = false) : formT s = none := by simp [formT, h]
theorem formT_none {s : List UInt8} (h : toks s = none) : formT s = none := by unfold formT; split <;> simp [h]
theorem formT_many {s : List UInt8} {ts : List Tok} (h : toks s = some ts) (h2 : ¬ (holesT ts).length ≤ 5) : formT s = none := by unfold formT; split <;> simp [h, h2]
theorem formT_some {s : List UInt8} {ts : List Tok} (hv : validT s = true) (h : toks s = some ts) (h2 : (holesT ts).length ≤ 5) : formT s = some ts := by unfold formT; rw [if_pos hv, h]; simp [h2]
theorem formT_parts {s : List UInt8} {ts : List Tok} (h : formT s = some ts) : validT s = true ∧ toks s = some ts ∧ (holesT ts).length ≤ 5 := by
  unfold formT at h
  split at h
  · rename_i hv
    rw [Option.bind_eq_some_iff] at h
    obtain ⟨us, hu, h⟩ := h
    split at h
    · cases h; rename_i h5; exact ⟨hv, hu, h5⟩
    · cases h
  · cases h

/-- values of names -/
abbrev Vals := List UInt8 → Option (List UInt8)
def valT (vs : Vals) : Tok → Option (List UInt8)
  | .inl c => some [c]
  | .inr n => vs n
def fillT (vs : Vals) : List Tok → Option (List UInt8)
  | [] => some []
  | t :: r => (valT vs t).bind (fun x => (fillT vs r).map (x ++ ·))
theorem fillT_cons (vs : Vals) (t : Tok) (r : List Tok) : fillT vs (t :: r) = (valT vs t).bind (fun x => (fillT vs r).map (x ++ ·)) := rfl
theorem fillT_append (vs : Vals) : ∀ (a b : List Tok), fillT vs (a ++ b) = (fillT vs a).bind (fun x => (fillT vs b).map (x ++ ·))
  | [], b => by simp [fillT]
  | t :: a, b => by
    rw [List.cons_append, fillT_cons, fillT_cons, fillT_append vs a b]
    cases valT vs t with
    | none => rfl
    | some x =>
      cases fillT vs a with
      | none => rfl
      | some y =>
        cases fillT vs b with
        | none => rfl
        | some z => simp
theorem fillT_bytes (vs : Vals) : ∀ (l : List UInt8), fillT vs (l.map Sum.inl) = some l
  | [] => rfl
  | c :: l => by
    rw [List.map_cons, fillT_cons, fillT_bytes vs l]; rfl
theorem fillT_hole (vs : Vals) (n : List UInt8) : fillT vs [Sum.inr n] = vs n := by
  show (vs n).bind (fun x => (fillT vs []).map (x ++ ·)) = _
  cases vs n with
  | none => rfl
  | some x => simp [fillT]
theorem fillT_isSome {vs : Vals} : ∀ {ts : List Tok}, (∀ n, n ∈ holesT ts → (vs n).isSome = true) → (fillT vs ts).isSome = true
  | [], _ => rfl
  | .inl c :: r, h => by
    have ih := fillT_isSome (vs := vs) (ts := r) (fun n hn => h n hn)
    rw [Option.isSome_iff_exists] at ih
    obtain ⟨x, hx⟩ := ih
    rw [fillT_cons, hx]; rfl
  | .inr m :: r, h => by
    have ih := fillT_isSome (vs := vs) (ts := r) (fun n hn => h n (List.mem_cons_of_mem _ hn))
    have hm := h m List.mem_cons_self
    rw [Option.isSome_iff_exists] at ih hm
    obtain ⟨x, hx⟩ := ih
    obtain ⟨y, hy⟩ := hm
    rw [fillT_cons, hx, show valT vs (.inr m) = some y from hy]; rfl

/-- some holes filled -/
def someK (vs : Vals) : Tok → List UInt8
  | .inl c => dblK c
  | .inr n => match vs n with
    | some x => dblB x
    | none => 123 :: (n ++ [125])
def someT (vs : Vals) (ts : List Tok) : List UInt8 := ts.flatMap (someK vs)
theorem someT_append (vs : Vals) (a b : List Tok) : someT vs (a ++ b) = someT vs a ++ someT vs b := List.flatMap_append
theorem someT_bytes (vs : Vals) : ∀ (l : List UInt8), someT vs (l.map Sum.inl) = dblB l
  | [] => rfl
  | c :: l => by
    show dblK c ++ someT vs (l.map Sum.inl) = _
    rw [someT_bytes vs l]; rfl
theorem someT_hole (vs : Vals) (n : List UInt8) : someT vs [Sum.inr n] = (match vs n with | some x => dblB x | none => 123 :: (n ++ [125])) := by
  unfold someT
  rw [List.flatMap_cons, List.flatMap_nil, List.append_nil]; rfl
/-- what it then reads as -/
def subK (vs : Vals) : Tok → List Tok
  | .inl c => [.inl c]
  | .inr n => match vs n with
    | some x => x.map .inl
    | none => [.inr n]
def subT (vs : Vals) (ts : List Tok) : List Tok := ts.flatMap (subK vs)
theorem someK_yes {vs : Vals} {n x : List UInt8} (h : vs n = some x) : someK vs (.inr n) = dblB x := by unfold someK; simp only [h]
theorem someK_no {vs : Vals} {n : List UInt8} (h : vs n = none) : someK vs (.inr n) = 123 :: (n ++ [125]) := by unfold someK; simp only [h]
theorem subK_yes {vs : Vals} {n x : List UInt8} (h : vs n = some x) : subK vs (.inr n) = x.map .inl := by unfold subK; simp only [h]
theorem subK_no {vs : Vals} {n : List UInt8} (h : vs n = none) : subK vs (.inr n) = [.inr n] := by unfold subK; simp only [h]
theorem toks_some (vs : Vals) : ∀ (ts : List Tok) (r : List UInt8), named ts → toks (someT vs ts ++ r) = (toks r).map (subT vs ts ++ ·)
  | [], r, _ => by show toks r = _; rw [show subT vs [] = [] from rfl, map_pre_nil]
  | .inl c :: ts, r, h => by
    have ih := toks_some vs ts r (fun n hn => h n (List.mem_cons_of_mem _ hn))
    show toks ((dblK c ++ someT vs ts) ++ r) = _
    rw [List.append_assoc, show dblK c = dblB [c] from by simp [dblB], toks_dbl, ih, map_pre_pre]
    rfl
  | .inr n :: ts, r, h => by
    have ih := toks_some vs ts r (fun m hm => h m (List.mem_cons_of_mem _ hm))
    have hn := h n List.mem_cons_self
    show toks ((someK vs (.inr n) ++ someT vs ts) ++ r) = (toks r).map ((subK vs (.inr n) ++ subT vs ts) ++ ·)
    rw [List.append_assoc]
    cases hv : vs n with
    | some x => rw [someK_yes hv, subK_yes hv, toks_dbl, ih, map_pre_pre]
    | none =>
      rw [someK_no hv, subK_no hv]
      show toks ((123 :: (n ++ [125])) ++ (someT vs ts ++ r)) = _
      rw [List.cons_append, List.append_assoc, show [(125 : UInt8)] ++ (someT vs ts ++ r) = 125 :: (someT vs ts ++ r) from rfl, toks_hole hn, ih, map_cons_pre]
      rfl
theorem toks_some' (vs : Vals) {ts : List Tok} (h : named ts) : toks (someT vs ts) = some (subT vs ts) := by
  have := toks_some vs ts [] h
  rw [List.append_nil, toks_nil] at this
  rw [this]; simp
theorem holesT_sub (vs : Vals) : ∀ (ts : List Tok), holesT (subT vs ts) = (holesT ts).filter (fun n => !(vs n).isSome)
  | [] => rfl
  | .inl c :: ts => by
    show holesT ([Sum.inl c] ++ subT vs ts) = _
    rw [holesT_append, holesT_sub vs ts]; rfl
  | .inr n :: ts => by
    show holesT (subK vs (.inr n) ++ subT vs ts) = (n :: holesT ts).filter _
    rw [holesT_append, holesT_sub vs ts, List.filter_cons]
    cases hv : vs n with
    | some x => rw [subK_yes hv, holesT_bytes]; simp
    | none => rw [subK_no hv, holesT_hole]; simp
theorem some_form {vs : Vals} {ts : List Tok} (h : named ts) (h5 : (holesT ts).length ≤ 5) (hv : validT (someT vs ts) = true) : formT (someT vs ts) = some (subT vs ts) := by
  refine formT_some hv (toks_some' vs h) ?_
  rw [holesT_sub]
  have := List.length_filter_le (fun n => !(vs n).isSome) (holesT ts)
  omega
/-- filled in two steps -/
theorem fill_sub {vs : Vals} (us : Vals) : ∀ {ts : List Tok} {x : List UInt8}, fillT vs ts = some x → fillT us (subT vs ts) = some x
  | [], x, h => h
  | .inl c :: ts, x, h => by
    rw [fillT_cons, Option.bind_eq_some_iff] at h
    obtain ⟨y, hy, h⟩ := h
    rw [Option.map_eq_some_iff] at h
    obtain ⟨z, hz, rfl⟩ := h
    cases hy
    show fillT us ([c].map Sum.inl ++ subT vs ts) = _
    rw [fillT_append, fillT_bytes, fill_sub us hz]; rfl
  | .inr n :: ts, x, h => by
    rw [fillT_cons, Option.bind_eq_some_iff] at h
    obtain ⟨y, hy, h⟩ := h
    rw [Option.map_eq_some_iff] at h
    obtain ⟨z, hz, rfl⟩ := h
    have hy' : vs n = some y := hy
    show fillT us (subK vs (.inr n) ++ subT vs ts) = _
    rw [subK_yes hy', fillT_append, fillT_bytes, fill_sub us hz]; rfl
/-- filled by nothing -/
def noV : Vals := fun _ => none
theorem some_nothing : ∀ (n : Nat) (l : List UInt8), l.length ≤ n → ∀ ts, toks l = some ts → someT noV ts = l
  | n, [], _, ts, h => by rw [toks_nil] at h; cases h; rfl
  | 0, c :: r, hl, ts, h => by simp at hl
  | n + 1, c :: r, hl, ts, h => by
    have hl' : r.length ≤ n := by simpa using hl
    rw [toks] at h
    split at h
    · rename_i hb
      rw [Option.map_eq_some_iff] at h
      obtain ⟨us, hu, rfl⟩ := h
      show dblK c ++ someT noV us = _
      rw [some_nothing n r hl' us hu, dblK_no hb]; rfl
    · rename_i hb
      have hb' : isBr c = true := by simpa using hb
      split at h
      · rename_i hh
        rw [Option.map_eq_some_iff] at h
        obtain ⟨us, hu, rfl⟩ := h
        show dblK c ++ someT noV us = _
        rw [some_nothing n r.tail (by simp; omega) us hu, dblK_br hb']
        cases r with
        | nil => cases hh
        | cons d r => simp at hh; subst hh; rfl
      · split at h
        · cases h
        · rename_i hc
          split at h
          · rename_i hh
            rw [Option.map_eq_some_iff] at h
            obtain ⟨us, hu, rfl⟩ := h
            have e : c = 123 := by
              unfold isBr at hb'
              simp at hb'
              exact hb'.resolve_right hc
            show someK noV (.inr (upTo r)) ++ someT noV us = _
            rw [some_nothing n (behind r) (Nat.le_trans (behind_len r) hl') us hu]
            show 123 :: (upTo r ++ [125]) ++ behind r = _
            rw [e]
            have := cut_at hh.1
            simp only [List.cons_append, List.append_assoc, List.nil_append]
            rw [← this]
          · cases h
theorem some_again (vs : Vals) : ∀ (ts : List Tok), someT vs (subT vs ts) = someT vs ts
  | [] => rfl
  | .inl c :: ts => by
    show someT vs ([Sum.inl c] ++ subT vs ts) = _
    rw [someT_append, some_again vs ts]
    show (dblK c ++ []) ++ _ = dblK c ++ someT vs ts
    rw [List.append_nil]
  | .inr n :: ts => by
    show someT vs (subK vs (.inr n) ++ subT vs ts) = someK vs (.inr n) ++ someT vs ts
    rw [someT_append, some_again vs ts]
    cases hv : vs n with
    | some x => rw [subK_yes hv, someK_yes hv, someT_bytes]
    | none => rw [subK_no hv, someK_no hv, someT_hole, hv]
end Go.Proofs.Ytadlelcckalcoaa.pl

/- Plain: the names of holes, each once; forms matched. -/
namespace Go.Proofs.Ytadlelcckalcoaa.pl
set_option maxRecDepth 100000
set_option linter.unusedVariables false

abbrev Nm := List UInt8
def ded (acc : List Nm) : List Nm → List Nm
  | [] => acc
  | n :: r => if n ∈ acc then ded acc r else ded (acc ++ [n]) r
theorem ded_in {acc : List Nm} {n : Nm} (h : n ∈ acc) (r : List Nm) : ded acc (n :: r) = ded acc r := by
  show (if n ∈ acc then ded acc r else ded (acc ++ [n]) r) = _
  rw [if_pos h]
theorem ded_new {acc : List Nm} {n : Nm} (h : ¬ n ∈ acc) (r : List Nm) : ded acc (n :: r) = ded (acc ++ [n]) r := by
  show (if n ∈ acc then ded acc r else ded (acc ++ [n]) r) = _
  rw [if_neg h]
theorem ded_append : ∀ (a acc b : List Nm), ded acc (a ++ b) = ded (ded acc a) b
  | [], acc, b => rfl
  | n :: a, acc, b => by
    rw [List.cons_append]
    by_cases h : n ∈ acc
    · rw [ded_in h, ded_in h]; exact ded_append a acc b
    · rw [ded_new h, ded_new h]; exact ded_append a (acc ++ [n]) b
theorem ded_one_in {acc : List Nm} {n : Nm} (h : n ∈ acc) : ded acc [n] = acc := by unfold ded; rw [if_pos h]; rfl
theorem ded_one_new {acc : List Nm} {n : Nm} (h : ¬ n ∈ acc) : ded acc [n] = acc ++ [n] := by unfold ded; rw [if_neg h]; rfl
theorem ded_len : ∀ (l acc : List Nm), (ded acc l).length ≤ acc.length + l.length
  | [], acc => by simp [ded]
  | n :: l, acc => by
    unfold ded
    split
    · have := ded_len l acc; simp; omega
    · have := ded_len l (acc ++ [n]); simp at this ⊢; omega
theorem ded_nodup : ∀ (l acc : List Nm), acc.Nodup → (ded acc l).Nodup
  | [], acc, h => h
  | n :: l, acc, h => by
    unfold ded
    split
    · exact ded_nodup l acc h
    · rename_i hn
      refine ded_nodup l _ ?_
      rw [List.nodup_append]
      refine ⟨h, by simp, fun a ha b hb e => ?_⟩
      rw [List.mem_singleton] at hb
      exact hn (by rw [← hb, ← e]; exact ha)
theorem ded_mem : ∀ (l acc : List Nm) (x : Nm), x ∈ ded acc l ↔ x ∈ acc ∨ x ∈ l
  | [], acc, x => by simp [ded]
  | n :: l, acc, x => by
    unfold ded
    split
    · rename_i hn
      rw [ded_mem l acc x, List.mem_cons]
      constructor
      · rintro (h | h)
        · exact .inl h
        · exact .inr (.inr h)
      · rintro (h | rfl | h)
        · exact .inl h
        · exact .inl hn
        · exact .inr h
    · rw [ded_mem l _ x, List.mem_append, List.mem_singleton, List.mem_cons, or_assoc]
/-- HolesOf -/
def holesD (ts : List Tok) : List Nm := ded [] (holesT ts)
theorem ded_filter (p : Nm → Bool) : ∀ (l acc : List Nm), ded (acc.filter p) (l.filter p) = (ded acc l).filter p
  | [], acc => rfl
  | n :: l, acc => by
    cases hp : p n with
    | false =>
      rw [List.filter_cons, if_neg (by rw [hp]; simp)]
      by_cases h : n ∈ acc
      · rw [ded_in h]; exact ded_filter p l acc
      · rw [ded_new h, ← ded_filter p l (acc ++ [n]), List.filter_append, List.filter_cons, if_neg (by rw [hp]; simp)]; simp
    | true =>
      rw [List.filter_cons, if_pos hp]
      by_cases h : n ∈ acc
      · rw [ded_in (List.mem_filter.2 ⟨h, hp⟩), ded_in h]; exact ded_filter p l acc
      · rw [ded_new (fun x => h (List.mem_filter.1 x).1), ded_new h, ← ded_filter p l (acc ++ [n]), List.filter_append, List.filter_cons, if_pos hp]; rfl

/-- fills: names and values -/
abbrev FL := List (Nm × List UInt8)
def lookL (fs : FL) : Vals := fun n => (fs.find? (fun p => p.1 == n)).map (·.2)
theorem lookL_nil (n : Nm) : lookL [] n = none := rfl
theorem lookL_append (a b : FL) (n : Nm) : lookL (a ++ b) n = (lookL a n).or (lookL b n) := by
  unfold lookL
  rw [List.find?_append]
  cases a.find? (fun p => p.1 == n) <;> rfl
theorem lookL_one (m : Nm) (v : List UInt8) (n : Nm) : lookL [(m, v)] n = if m = n then some v else none := by
  unfold lookL
  rw [List.find?_cons]
  by_cases h : m = n
  · simp [h]
  · have : (m == n) = false := beq_eq_false_iff_ne.2 h
    simp [this, h]
theorem lookL_some_iff {fs : FL} {n : Nm} : (lookL fs n).isSome = true ↔ n ∈ fs.map (·.1) := by
  unfold lookL
  rw [Option.isSome_map, List.find?_isSome]
  constructor
  · rintro ⟨x, hx, he⟩
    rw [List.mem_map]
    exact ⟨x, hx, by simpa using he⟩
  · intro h
    obtain ⟨x, hx, rfl⟩ := List.mem_map.1 h
    exact ⟨x, hx, by simp⟩
theorem lookL_none_iff {fs : FL} {n : Nm} : lookL fs n = none ↔ ¬ n ∈ fs.map (·.1) := by
  rw [← lookL_some_iff]
  cases lookL fs n <;> simp
theorem lookL_more {fs : FL} {m : Nm} {v : List UInt8} (h : lookL fs m = none) (n : Nm) : lookL (fs ++ [(m, v)]) n = if n = m then some v else lookL fs n := by
  rw [lookL_append, lookL_one]
  by_cases e : n = m
  · subst e; rw [h]; simp
  · rw [if_neg (fun x => e x.symm), if_neg e]; cases lookL fs n <;> rfl

def findK (f : Nat → Option FL) : Nat → Nat → Option FL
  | k, 0 => none
  | k, m + 1 => match f k with
    | some x => some x
    | none => findK f (k + 1) m
/-- the values of the holes from here on, the shortest first -/
def matchT : List Tok → FL → List UInt8 → Option FL
  | [], fs, s => if s = [] then some fs else none
  | .inl c :: r, fs, s => match s with
    | [] => none
    | d :: t => if c = d then matchT r fs t else none
  | .inr n :: r, fs, s => match lookL fs n with
    | some v => if v.isPrefixOf s = true then matchT r fs (s.drop v.length) else none
    | none => findK (fun k => matchT r (fs ++ [(n, s.take k)]) (s.drop k)) 0 (s.length + 1)
theorem findK_hit {f : Nat → Option FL} {k m : Nat} {x : FL} (h : f k = some x) : findK f k (m + 1) = some x := by unfold findK; rw [h]
theorem findK_miss {f : Nat → Option FL} {k m : Nat} (h : f k = none) : findK f k (m + 1) = findK f (k + 1) m := by rw [findK, h]
theorem findK_from {f : Nat → Option FL} {x : FL} : ∀ {m k : Nat}, findK f k m = some x → ∃ j, k ≤ j ∧ j < k + m ∧ f j = some x
  | 0, k, h => by cases h
  | m + 1, k, h => by
    unfold findK at h
    split at h
    · rename_i y hy
      cases h
      exact ⟨k, Nat.le_refl _, by omega, hy⟩
    · obtain ⟨j, h1, h2, h3⟩ := findK_from h
      exact ⟨j, by omega, by omega, h3⟩
theorem matchT_end (fs : FL) (s : List UInt8) : matchT [] fs s = if s = [] then some fs else none := rfl
theorem matchT_byte (c d : UInt8) (r : List Tok) (fs : FL) (t : List UInt8) : matchT (.inl c :: r) fs (d :: t) = if c = d then matchT r fs t else none := rfl
theorem matchT_none (c : UInt8) (r : List Tok) (fs : FL) : matchT (.inl c :: r) fs [] = none := rfl
theorem matchT_old {n : Nm} {fs : FL} {v : List UInt8} (h : lookL fs n = some v) (r : List Tok) (s : List UInt8) : matchT (.inr n :: r) fs s = if v.isPrefixOf s = true then matchT r fs (s.drop v.length) else none := by
  show (match lookL fs n with
    | some v => if v.isPrefixOf s = true then matchT r fs (s.drop v.length) else none
    | none => findK (fun k => matchT r (fs ++ [(n, s.take k)]) (s.drop k)) 0 (s.length + 1)) = _
  rw [h]
theorem matchT_new {n : Nm} {fs : FL} (h : lookL fs n = none) (r : List Tok) (s : List UInt8) : matchT (.inr n :: r) fs s = findK (fun k => matchT r (fs ++ [(n, s.take k)]) (s.drop k)) 0 (s.length + 1) := by
  show (match lookL fs n with
    | some v => if v.isPrefixOf s = true then matchT r fs (s.drop v.length) else none
    | none => findK (fun k => matchT r (fs ++ [(n, s.take k)]) (s.drop k)) 0 (s.length + 1)) = _
  rw [h]
/-- bytes are met -/
theorem matchT_run : ∀ (p : List UInt8) (r : List Tok) (fs : FL) (s : List UInt8), matchT (p.map Sum.inl ++ r) fs s = if p.isPrefixOf s = true then matchT r fs (s.drop p.length) else none
  | [], r, fs, s => by simp
  | c :: p, r, fs, [] => by
    rw [List.map_cons, List.cons_append, matchT_none]
    simp
  | c :: p, r, fs, d :: s => by
    rw [List.map_cons, List.cons_append, matchT_byte]
    by_cases h : c = d
    · subst h
      rw [if_pos rfl, matchT_run p r fs s]
      simp
    · rw [if_neg h, if_neg]
      simp [h]
/-- what a match tells -/
structure Told (ts : List Tok) (fs gs : FL) (s : List UInt8) : Prop where
  names : gs.map (·.1) = ded (fs.map (·.1)) (holesT ts)
  fills : fillT (lookL gs) ts = some s
  keeps : ∀ n v, lookL fs n = some v → lookL gs n = some v
  parts : ∀ p, p ∈ gs → p ∈ fs ∨ p.2.Sublist s
theorem matchT_told : ∀ {ts : List Tok} {fs gs : FL} {s : List UInt8}, matchT ts fs s = some gs → Told ts fs gs s
  | [], fs, gs, s, h => by
    rw [matchT_end] at h
    split at h
    · rename_i hs
      cases h; subst hs
      exact ⟨rfl, rfl, fun n v e => e, fun p hp => .inl hp⟩
    · cases h
  | .inl c :: r, fs, gs, [], h => by rw [matchT_none] at h; cases h
  | .inl c :: r, fs, gs, d :: t, h => by
    rw [matchT_byte] at h
    split at h
    · rename_i hc
      subst hc
      have T := matchT_told h
      refine ⟨T.names, ?_, T.keeps, fun p hp => (T.parts p hp).imp id (fun x => x.trans (List.sublist_cons_self _ _))⟩
      rw [fillT_cons, T.fills]; rfl
    · cases h
  | .inr n :: r, fs, gs, s, h => by
    cases hv : lookL fs n with
    | some v =>
      rw [matchT_old hv] at h
      split at h
      · rename_i hp
        have T := matchT_told h
        rw [List.isPrefixOf_iff_prefix] at hp
        obtain ⟨t, rfl⟩ := hp
        rw [List.drop_left] at T
        refine ⟨?_, ?_, T.keeps, fun p hp => (T.parts p hp).imp id (fun x => x.trans (List.sublist_append_right _ _))⟩
        · rw [T.names]
          show ded _ (holesT r) = ded _ (n :: holesT r)
          have : n ∈ fs.map (·.1) := lookL_some_iff.1 (by rw [hv]; rfl)
          rw [ded_in this]
        · show (lookL gs n).bind (fun x => (fillT (lookL gs) r).map (x ++ ·)) = _
          rw [T.keeps n v hv, T.fills]; rfl
      · cases h
    | none =>
      rw [matchT_new hv] at h
      obtain ⟨k, _, hk, h⟩ := findK_from h
      have T := matchT_told h
      have hn : lookL gs n = some (s.take k) := T.keeps n _ (by rw [lookL_more hv, if_pos rfl])
      refine ⟨?_, ?_, fun m v hm => T.keeps m v ?_, fun p hp => ?_⟩
      · rw [T.names, List.map_append]
        show ded _ (holesT r) = ded _ (n :: holesT r)
        have : ¬ n ∈ fs.map (·.1) := lookL_none_iff.1 hv
        rw [ded_new this]; rfl
      · show (lookL gs n).bind (fun x => (fillT (lookL gs) r).map (x ++ ·)) = _
        rw [hn, T.fills]
        show some (s.take k ++ s.drop k) = _
        rw [List.take_append_drop]
      · rw [lookL_more hv, if_neg (by rintro rfl; rw [hv] at hm; cases hm)]; exact hm
      · rcases T.parts p hp with h1 | h1
        · rw [List.mem_append, List.mem_singleton] at h1
          rcases h1 with h1 | rfl
          · exact .inl h1
          · exact .inr (List.take_sublist _ _)
        · exact .inr (h1.trans (List.drop_sublist _ _))
end Go.Proofs.Ytadlelcckalcoaa.pl

