/- Plain mathematics: lines that flow, and what is told of them. -/
import Derived.Test.YtgfpbnafehpopaaPlainQt
import Derived.Test.YtgfpbnafehpopaaPlainG
import Derived.Test.YtgfpbnafehpopaaPlainZ
namespace Go.Proofs.Ytgfpbnafehpopaa.pl

/-- paragraph k -/
def nthP (ps : Gs) (k : Nat) : List ByteArray := ps.getD k []
theorem nthP_eq {ps : Gs} {k : Nat} (h : k < ps.length) : nthP ps k = ps[k] := by simp [nthP, h]
def totTo (ps : Gs) : Nat → Nat
  | 0 => 0
  | k + 1 => totTo ps k + (nthP ps k).length
theorem totTo_succ (ps : Gs) (k : Nat) : totTo ps (k + 1) = totTo ps k + (nthP ps k).length := rfl
theorem totTo_mono (ps : Gs) (k : Nat) : ∀ d, totTo ps k ≤ totTo ps (k + d)
  | 0 => Nat.le_refl _
  | d + 1 => Nat.le_trans (totTo_mono ps k d) (by rw [← Nat.add_assoc, totTo_succ]; omega)
theorem totTo_le {ps : Gs} {k m : Nat} (h : k ≤ m) : totTo ps k ≤ totTo ps m := by
  have := totTo_mono ps k (m - k)
  rwa [Nat.add_sub_cancel' h] at this
theorem totTo_flat (ps : Gs) : ∀ k, k ≤ ps.length → totTo ps k = (ps.take k).flatten.length
  | 0, _ => rfl
  | k + 1, h => by
    rw [totTo_succ, totTo_flat ps k (by omega), List.take_succ_eq_append_getElem (by omega), List.flatten_append, List.length_append, nthP_eq (by omega)]
    simp
/-- each paragraph has a word, and all have no more than lines -/
def partsB (ps : Gs) : Bool := ps.all (fun p => decide (0 < p.length)) && decide (totTo ps ps.length ≤ 20)
theorem all_nthP {ps : Gs} {f : List ByteArray → Bool} (h : ∀ k, k < ps.length → f (nthP ps k) = true) : ps.all f = true := by
  rw [List.all_eq_true]
  intro p hp
  obtain ⟨k, hk, rfl⟩ := List.getElem_of_mem hp
  rw [← nthP_eq hk]; exact h k hk
theorem all_nthP_no {ps : Gs} {f : List ByteArray → Bool} {k : Nat} (hk : k < ps.length) (h : f (nthP ps k) = false) : ps.all f = false := by
  rw [List.all_eq_false]
  exact ⟨_, List.getElem_mem hk, by rw [← nthP_eq hk, h]; simp⟩
theorem all_at {ps : Gs} {f : List ByteArray → Bool} (h : ps.all f = true) {k : Nat} (hk : k < ps.length) : f (nthP ps k) = true := by
  rw [List.all_eq_true] at h
  rw [nthP_eq hk]; exact h _ (List.getElem_mem hk)
theorem partsB_yes {ps : Gs} (h1 : ∀ k, k < ps.length → 0 < (nthP ps k).length) (h2 : totTo ps ps.length ≤ 20) : partsB ps = true := by
  unfold partsB
  rw [all_nthP (f := fun p => decide (0 < p.length)) (fun k hk => decide_eq_true (h1 k hk)), decide_eq_true h2]; rfl
theorem partsB_empty {ps : Gs} {k : Nat} (hk : k < ps.length) (h : (nthP ps k).length = 0) : partsB ps = false := by
  unfold partsB
  rw [all_nthP_no (f := fun p => decide (0 < p.length)) hk (by simp; exact List.length_eq_zero_iff.1 h)]; rfl
theorem partsB_long {ps : Gs} {k : Nat} (hk : k ≤ ps.length) (h : 20 < totTo ps k) : partsB ps = false := by
  unfold partsB
  rw [decide_eq_false (by have := totTo_le (ps := ps) hk; omega), Bool.and_false]
theorem partsB_parts {ps : Gs} (h : partsB ps = true) : (∀ k, k < ps.length → 0 < (nthP ps k).length) ∧ totTo ps ps.length ≤ 20 := by
  unfold partsB at h
  rw [Bool.and_eq_true] at h
  exact ⟨fun k hk => of_decide_eq_true (all_at h.1 hk), of_decide_eq_true h.2⟩
theorem parts_len {ps : Gs} (h : partsB ps = true) : ps.length ≤ 20 := by
  have ⟨h1, h2⟩ := partsB_parts h
  have key : ∀ k, k ≤ ps.length → k ≤ totTo ps k := by
    intro k
    induction k with
    | zero => intro _; exact Nat.zero_le _
    | succ k ih => intro hk; rw [totTo_succ]; have := ih (by omega); have := h1 k (by omega); omega
  have := key _ (Nat.le_refl _); omega

/-- the lines of a paragraph, with soft ends -/
def softF (l : List ByteArray) (i : Nat) : ByteArray := if i + 1 < l.length then nth l i ++ sp1 else nth l i
def softL (l : List ByteArray) : List ByteArray := drawL (softF l) l.length
theorem softL_len (l : List ByteArray) : (softL l).length = l.length := drawL_len _ _
theorem softF_more {l : List ByteArray} {i : Nat} (h : i + 1 < l.length) : softF l i = nth l i ++ sp1 := by unfold softF; rw [if_pos h]
theorem softF_last {l : List ByteArray} {i : Nat} (h : ¬ i + 1 < l.length) : softF l i = nth l i := by unfold softF; rw [if_neg h]
theorem softL_nth {l : List ByteArray} {i : Nat} (h : i < l.length) : nth (softL l) i = softF l i := drawL_nth _ h
/-- the first k ends set -/
def softTo (l l' : List ByteArray) (k : Nat) : Prop := l'.length = l.length ∧ (∀ i, i < k → nth l' i = nth l i ++ sp1) ∧ ∀ i, k ≤ i → i < l.length → nth l' i = nth l i
theorem softTo_zero (l : List ByteArray) : softTo l l 0 := ⟨rfl, fun i h => absurd h (by omega), fun _ _ _ => rfl⟩
theorem softTo_all {l l' : List ByteArray} {k : Nat} (h : softTo l l' k) (hk : k + 1 = l.length) : l' = softL l := by
  apply nth_ext (by rw [h.1, softL_len])
  intro i hi
  rw [h.1] at hi
  rw [softL_nth hi]
  by_cases e : i < k
  · rw [h.2.1 i e, softF_more (by omega)]
  · rw [h.2.2 i (by omega) hi, softF_last (by omega)]
theorem softL_cons (x y : ByteArray) (r : List ByteArray) : softL (x :: y :: r) = (x ++ sp1) :: softL (y :: r) := by
  apply nth_ext (by simp [softL_len])
  intro i hi
  rw [softL_len] at hi
  rw [softL_nth hi]
  cases i with
  | zero => rw [softF_more (by simp)]; rfl
  | succ i =>
    have hi' : i < (y :: r).length := by simpa using hi
    have e1 : nth (x :: y :: r) (i + 1) = nth (y :: r) i := by simp [nth]
    have e2 : nth ((x ++ sp1) :: softL (y :: r)) (i + 1) = nth (softL (y :: r)) i := by simp [nth]
    rw [e2, softL_nth hi']
    by_cases h : i + 1 < (y :: r).length
    · rw [softF_more h, softF_more (by simp at h ⊢; omega), e1]
    · rw [softF_last h, softF_last (by simp at h ⊢; omega), e1]
theorem softL_one (x : ByteArray) : softL [x] = [x] := rfl
theorem softL_nil : softL [] = [] := rfl

def flowTo (ps : Gs) (wd : Int) (k : Nat) : List ByteArray := ((ps.take k).map fun p => softL (wrapB wd p)).flatten
theorem flowTo_zero (ps : Gs) (wd : Int) : flowTo ps wd 0 = [] := rfl
theorem flowTo_succ {ps : Gs} {wd : Int} {k : Nat} (h : k < ps.length) : flowTo ps wd (k + 1) = flowTo ps wd k ++ softL (wrapB wd (nthP ps k)) := by
  unfold flowTo
  rw [List.take_succ_eq_append_getElem h, List.map_append, List.flatten_append, nthP_eq h]
  simp
theorem flowTo_len {ps : Gs} {wd : Int} : ∀ k, k ≤ ps.length → (flowTo ps wd k).length ≤ totTo ps k
  | 0, _ => Nat.le_refl _
  | k + 1, h => by
    rw [flowTo_succ (by omega), List.length_append, totTo_succ, softL_len]
    have := flowTo_len (ps := ps) (wd := wd) k (by omega)
    have := wrapB_len wd (nthP ps k)
    omega
def flowB (ps : Gs) (wd : Int) : Bool := inR wd 1 119 && partsB ps && ps.all (fun p => fitA p wd)
def flowR (ps : Gs) (wd : Int) : List ByteArray := if flowB ps wd = true then flowTo ps wd ps.length else []
theorem flowB_yes {ps : Gs} {wd : Int} (h1 : inR wd 1 119 = true) (h2 : partsB ps = true) (h3 : ∀ k, k < ps.length → fitA (nthP ps k) wd = true) : flowB ps wd = true := by
  unfold flowB; rw [h1, h2, all_nthP (f := fun p => fitA p wd) h3]; rfl
theorem flowB_no {ps : Gs} {wd : Int} (h : inR wd 1 119 = false ∨ partsB ps = false ∨ ∃ k, k < ps.length ∧ fitA (nthP ps k) wd = false) : flowB ps wd = false := by
  unfold flowB
  rcases h with h | h | ⟨k, hk, h⟩
  · simp [h]
  · simp [h]
  · rw [all_nthP_no (f := fun p => fitA p wd) hk h]; simp
theorem flowR_yes {ps : Gs} {wd : Int} (h : flowB ps wd = true) : flowR ps wd = flowTo ps wd ps.length := by simp [flowR, h]
theorem flowR_no {ps : Gs} {wd : Int} (h : flowB ps wd = false) : flowR ps wd = [] := by simp [flowR, h]
theorem flowB_parts {ps : Gs} {wd : Int} (h : flowB ps wd = true) : inR wd 1 119 = true ∧ partsB ps = true ∧ ∀ k, k < ps.length → fitA (nthP ps k) wd = true := by
  unfold flowB at h
  rw [Bool.and_eq_true, Bool.and_eq_true] at h
  exact ⟨h.1.1, h.1.2, fun k hk => all_at h.2 hk⟩
theorem flowR_len (ps : Gs) (wd : Int) : (flowR ps wd).length ≤ 20 := by
  by_cases h : flowB ps wd = true
  · rw [flowR_yes h]
    have := flowTo_len (ps := ps) (wd := wd) ps.length (Nat.le_refl _)
    have := (partsB_parts (flowB_parts h).2.1).2
    omega
  · rw [flowR_no (by simpa using h)]; exact Nat.zero_le _

/-- does a line have a space at its end -/
def endSp (s : ByteArray) : Bool := decide (s.data.toList.getLast? = some 32)
theorem hasS_sp (s : ByteArray) : Lib.hasSuffix s.data.toList [32] = endSp s := by
  unfold Lib.hasSuffix endSp
  rw [Bool.eq_iff_iff, List.isSuffixOf_iff_suffix, decide_eq_true_iff]
  constructor
  · rintro ⟨t, ht⟩; rw [← ht]; simp
  · intro h
    obtain ⟨t, ht⟩ := List.getLast?_eq_some_iff.1 h
    exact ⟨t, ht.symm⟩
theorem endSp_zero {s : ByteArray} (h : s.size = 0) : endSp s = false := by
  have : s.data.toList = [] := List.length_eq_zero_iff.1 (by rw [len_eq]; exact h)
  simp [endSp, this]
theorem endSp_at {s : ByteArray} (h : 0 < s.size) : endSp s = decide (s[s.size - 1] = 32) := by
  unfold endSp
  have e : s.data.toList.getLast? = some s[s.size - 1] := by
    rw [List.getLast?_eq_getElem?, len_eq, get_some (by omega)]
  rw [e]; simp

/-- the paragraphs of lines: those that are told, behind the words of the open one -/
def unfl : List ByteArray → List ByteArray → Gs
  | _, [] => []
  | cur, s :: r => if r = [] ∨ endSp s = false then (cur ++ wordsOf s) :: unfl [] r else unfl (cur ++ wordsOf s) r
def unflR (l : List ByteArray) : Gs := if validLs l = true then unfl [] l else []
theorem unfl_hard {cur : List ByteArray} {s : ByteArray} {r : List ByteArray} (h : r = [] ∨ endSp s = false) : unfl cur (s :: r) = (cur ++ wordsOf s) :: unfl [] r := by
  conv => lhs; unfold unfl
  rw [if_pos h]
theorem unfl_soft {cur : List ByteArray} {s : ByteArray} {r : List ByteArray} (h1 : r ≠ []) (h2 : endSp s = true) : unfl cur (s :: r) = unfl (cur ++ wordsOf s) r := by
  conv => lhs; unfold unfl
  rw [if_neg]
  rintro (h | h)
  · exact h1 h
  · rw [h2] at h; cases h
theorem unfl_len : ∀ (l cur : List ByteArray), (unfl cur l).length ≤ l.length
  | [], _ => Nat.le_refl _
  | s :: r, cur => by
    unfold unfl; split
    · have := unfl_len r []; simp; omega
    · have := unfl_len r (cur ++ wordsOf s); simp; omega
theorem unfl_flat : ∀ (l cur : List ByteArray), (l = [] → cur = []) → (unfl cur l).flatten = cur ++ (l.map wordsOf).flatten
  | [], cur, h => by rw [h rfl]; rfl
  | s :: r, cur, _ => by
    unfold unfl; split
    · rw [List.flatten_cons, unfl_flat r [] (fun _ => rfl)]; simp
    · rename_i h
      rw [unfl_flat r _ (fun e => absurd (.inl e) h)]; simp
/-- k lines are read: the paragraphs that are closed, and the words of the open one -/
def UInv (l : List ByteArray) (k : Nat) (out : Gs) (cur : List ByteArray) : Prop := out ++ unfl cur (l.drop k) = unfl [] l ∧ out.length ≤ k ∧ cur.length ≤ 120 * k
theorem uinv_zero (l : List ByteArray) : UInv l 0 [] [] := ⟨by simp, Nat.le_refl _, by simp⟩
theorem uinv_hard {l : List ByteArray} {k : Nat} {out : Gs} {cur : List ByteArray} {x : ByteArray} (h : UInv l k out cur) (hk : k < l.length) (hx : nth l k = x) (hh : k + 1 = l.length ∨ endSp x = false) : UInv l (k + 1) (out ++ [cur ++ wordsOf x]) [] := by
  obtain ⟨h1, h2, h3⟩ := h
  refine ⟨?_, by simp; omega, by simp⟩
  rw [List.drop_eq_getElem_cons hk, ← nth_eq hk, hx] at h1
  rw [unfl_hard (by
    rcases hh with h | h
    · left; exact List.drop_of_length_le (by omega)
    · right; exact h)] at h1
  rw [← h1]; simp
theorem uinv_soft {l : List ByteArray} {k : Nat} {out : Gs} {cur : List ByteArray} {x : ByteArray} (h : UInv l k out cur) (hk : k + 1 < l.length) (hx : nth l k = x) (hh : endSp x = true) : UInv l (k + 1) out (cur ++ wordsOf x) := by
  obtain ⟨h1, h2, h3⟩ := h
  refine ⟨?_, by omega, ?_⟩
  · rw [List.drop_eq_getElem_cons (show k < l.length by omega), ← nth_eq (by omega), hx, unfl_soft (by
      intro e
      have := congrArg List.length e
      rw [List.length_drop] at this; simp at this; omega) hh] at h1
    exact h1
  · have := wordsOf_len x; rw [List.length_append]; omega
theorem uinv_done {l : List ByteArray} {out : Gs} {cur : List ByteArray} (h : UInv l l.length out cur) : out = unfl [] l := by
  have := h.1
  rw [List.drop_length] at this
  simpa [unfl] using this
end Go.Proofs.Ytgfpbnafehpopaa.pl
