/- Plain mathematics: words put into lines, by groups of words. -/
import Derived.Test.YtgfpbnafehpopaaDoorPlainV
import Derived.Test.YtgfpbnafehpopaaDoorPlainF
namespace Go.Proofs.YtgfpbnafehpopaaDoor.pl

abbrev Gs := List (List ByteArray)
/-- the bytes of a line of these words -/
def szJ (g : List ByteArray) : Nat := (joinB g sp1).size
def lastG (gs : Gs) : List ByteArray := gs.getLastD []
/-- one more word: in a new line, or behind the last one -/
def putG (gs : Gs) (x : ByteArray) (op : Bool) : Gs := if op then gs ++ [[x]] else gs.dropLast ++ [lastG gs ++ [x]]

theorem putG_open (gs : Gs) (x : ByteArray) : putG gs x true = gs ++ [[x]] := rfl
theorem putG_more (d : Gs) (c : List ByteArray) (x : ByteArray) : putG (d ++ [c]) x false = d ++ [c ++ [x]] := by
  simp [putG, lastG]
theorem snocG {gs : Gs} (h : gs ≠ []) : ∃ d c, gs = d ++ [c] ∧ lastG gs = c := by
  refine ⟨gs.dropLast, gs.getLast h, (List.dropLast_concat_getLast h).symm, ?_⟩
  unfold lastG
  rw [List.getLastD_eq_getLast?, List.getLast?_eq_some_getLast h]; rfl
theorem lastG_snoc (d : Gs) (c : List ByteArray) : lastG (d ++ [c]) = c := by simp [lastG]
theorem putG_ne (gs : Gs) (x : ByteArray) (op : Bool) : putG gs x op ≠ [] := by
  unfold putG; split <;> simp
theorem putG_flatten (gs : Gs) (x : ByteArray) (op : Bool) : (putG gs x op).flatten = gs.flatten ++ [x] := by
  cases op with
  | true => simp [putG_open]
  | false =>
    by_cases h : gs = []
    · subst h; simp [putG, lastG]
    · obtain ⟨d, c, rfl, _⟩ := snocG h
      rw [putG_more]; simp
theorem putG_full {gs : Gs} {x : ByteArray} {op : Bool} (h : ∀ g ∈ gs, g ≠ []) : ∀ g ∈ putG gs x op, g ≠ [] := by
  unfold putG
  intro g hg
  split at hg
  · rcases List.mem_append.1 hg with h1 | h1
    · exact h g h1
    · simp at h1; subst h1; simp
  · rcases List.mem_append.1 hg with h1 | h1
    · exact h g (List.dropLast_subset _ h1)
    · simp at h1; subst h1; simp

theorem toL_append (a b : List ByteArray) : toL (a ++ b) = toL a ++ toL b := by simp [toL]
theorem join_snoc (g : List (List UInt8)) (x mid : List UInt8) (h : g ≠ []) : Lib.join (g ++ [x]) mid = Lib.join g mid ++ mid ++ x := by
  cases g with
  | nil => exact absurd rfl h
  | cons y r =>
    rw [List.cons_append, Lib.join_cons, Lib.join_cons]
    simp [Lib.joinTail, List.append_assoc]
theorem joinB_snoc {g : List ByteArray} (h : g ≠ []) (x mid : ByteArray) : joinB (g ++ [x]) mid = joinB g mid ++ mid ++ x := by
  unfold joinB
  rw [toL_append, show toL [x] = [x.data.toList] from rfl, join_snoc _ _ _ (by simpa [toL] using h), bs_append, bs_append, bs_self, bs_self]
theorem joinB_one (x mid : ByteArray) : joinB [x] mid = x := by
  unfold joinB; rw [show toL [x] = [x.data.toList] from rfl, Lib.join_one]; exact bs_self x
theorem joinB_nil (mid : ByteArray) : joinB [] mid = bs [] := by simp [joinB, toL, Lib.join_nil]
theorem szJ_one (x : ByteArray) : szJ [x] = x.size := by unfold szJ; rw [joinB_one]
theorem szJ_snoc {g : List ByteArray} (h : g ≠ []) (x : ByteArray) : szJ (g ++ [x]) = szJ g + 1 + x.size := by
  unfold szJ; rw [joinB_snoc h, ByteArray.size_append, ByteArray.size_append]; rfl
theorem szJ_le_snoc (g : List ByteArray) (x : ByteArray) : szJ g ≤ szJ (g ++ [x]) := by
  by_cases h : g = []
  · subst h; unfold szJ; rw [joinB_nil]; exact Nat.zero_le _
  · rw [szJ_snoc h]; omega

/-- lines by a rule that tells when a new one opens -/
def grW (op : Nat → Gs → ByteArray → Bool) (l : List ByteArray) : Nat → Gs
  | 0 => []
  | k + 1 => putG (grW op l k) (nth l k) (op k (grW op l k) (nth l k))
theorem grW_zero (op l) : grW op l 0 = [] := rfl
theorem grW_succ (op l) (k : Nat) : grW op l (k + 1) = putG (grW op l k) (nth l k) (op k (grW op l k) (nth l k)) := rfl
theorem grW_ne (op l) {k : Nat} (h : 0 < k) : grW op l k ≠ [] := by
  obtain ⟨j, rfl⟩ : ∃ j, k = j + 1 := ⟨k - 1, by omega⟩
  exact putG_ne _ _ _
theorem grW_flatten (op) (l : List ByteArray) : ∀ k, k ≤ l.length → (grW op l k).flatten = l.take k
  | 0, _ => by simp [grW]
  | k + 1, h => by
    rw [grW_succ, putG_flatten, grW_flatten op l k (by omega), List.take_succ_eq_append_getElem (by omega), nth_eq (by omega)]
theorem grW_full (op) (l : List ByteArray) : ∀ k, ∀ g ∈ grW op l k, g ≠ []
  | 0 => by simp [grW]
  | k + 1 => putG_full (grW_full op l k)
theorem grW_len (op) (l : List ByteArray) : ∀ k, (grW op l k).length ≤ k
  | 0 => Nat.le_refl _
  | k + 1 => by
    have := grW_len op l k
    rw [grW_succ]; unfold putG
    split
    · simp; omega
    · by_cases h : grW op l k = []
      · rw [h]; simp
      · have : 0 < (grW op l k).length := List.length_pos_iff.2 h
        simp; omega

/-- the greedy rule -/
def opG (wd : Int) (_ : Nat) (gs : Gs) (x : ByteArray) : Bool := gs.isEmpty || decide (wd < (szJ (lastG gs) : Int) + 1 + x.size)
def greedy (wd : Int) (l : List ByteArray) (k : Nat) : Gs := grW (opG wd) l k
def jline (g : List ByteArray) : ByteArray := joinB g sp1
def wrapB (wd : Int) (l : List ByteArray) : List ByteArray := (greedy wd l l.length).map jline
def shortAll (l : List ByteArray) (wd : Int) : Bool := l.all (fun x => decide ((x.size : Int) ≤ wd))
def fitA (l : List ByteArray) (wd : Int) : Bool := shortAll l wd && vWords l && inR wd 1 120
def wrapR (l : List ByteArray) (wd : Int) : List ByteArray := if fitA l wd = true then wrapB wd l else []
theorem jline_size (g : List ByteArray) : (jline g).size = szJ g := rfl

theorem greedy_zero (wd l) : greedy wd l 0 = [] := rfl
theorem greedy_first (wd : Int) (l : List ByteArray) : greedy wd l 1 = [[nth l 0]] := rfl
/-- how a round of the greedy way goes on -/
theorem greedy_more {wd : Int} {l : List ByteArray} {k : Nat} (d : Gs) (c : List ByteArray) (h : greedy wd l k = d ++ [c]) (hf : (szJ c : Int) + 1 + (nth l k).size ≤ wd) : greedy wd l (k + 1) = d ++ [c ++ [nth l k]] := by
  have : opG wd k (d ++ [c]) (nth l k) = false := by
    unfold opG; rw [lastG_snoc, decide_eq_false (by omega)]; simp
  unfold greedy at h ⊢
  rw [grW_succ, h, this, putG_more]
theorem greedy_new {wd : Int} {l : List ByteArray} {k : Nat} (d : Gs) (c : List ByteArray) (h : greedy wd l k = d ++ [c]) (hf : ¬ (szJ c : Int) + 1 + (nth l k).size ≤ wd) : greedy wd l (k + 1) = d ++ [c] ++ [[nth l k]] := by
  have : opG wd k (d ++ [c]) (nth l k) = true := by
    unfold opG; rw [lastG_snoc, decide_eq_true (by omega)]; simp
  unfold greedy at h ⊢
  rw [grW_succ, h, this, putG_open]
theorem greedy_snoc (wd : Int) (l : List ByteArray) {k : Nat} (h : 0 < k) : ∃ d c, greedy wd l k = d ++ [c] ∧ c ≠ [] := by
  obtain ⟨d, c, h1, _⟩ := snocG (grW_ne (opG wd) l h)
  exact ⟨d, c, h1, grW_full (opG wd) l k c (by rw [h1]; simp)⟩

/-- lines are not longer than the width -/
theorem greedy_fits {wd : Int} {l : List ByteArray} (hs : ∀ i, i < l.length → ((nth l i).size : Int) ≤ wd) : ∀ k, k ≤ l.length → ∀ g ∈ greedy wd l k, (szJ g : Int) ≤ wd
  | 0, _ => by simp [greedy, grW]
  | k + 1, hk => by
    have ih := greedy_fits hs k (by omega)
    have hx := hs k (by omega)
    by_cases h0 : 0 < k
    · obtain ⟨d, c, h1, hc⟩ := greedy_snoc wd l h0
      by_cases hf : (szJ c : Int) + 1 + (nth l k).size ≤ wd
      · rw [greedy_more d c h1 hf]
        rw [h1] at ih
        intro g hg
        rcases List.mem_append.1 hg with h2 | h2
        · exact ih g (List.mem_append_left _ h2)
        · simp at h2; subst h2; rw [szJ_snoc hc]; omega
      · rw [greedy_new d c h1 hf]
        rw [h1] at ih
        intro g hg
        rcases List.mem_append.1 hg with h2 | h2
        · exact ih g h2
        · simp at h2; subst h2; rw [szJ_one]; exact hx
    · obtain rfl : k = 0 := by omega
      rw [greedy_first]
      intro g hg
      simp at hg; subst hg; rw [szJ_one]; exact hx

theorem shortAll_yes {l : List ByteArray} {wd : Int} (h : ∀ i, i < l.length → ((nth l i).size : Int) ≤ wd) : shortAll l wd = true := by
  unfold shortAll
  rw [List.all_eq_true]
  intro x hx
  obtain ⟨i, hi, rfl⟩ := List.getElem_of_mem hx
  rw [decide_eq_true_eq, ← nth_eq hi]; exact h i hi
theorem shortAll_no {l : List ByteArray} {wd : Int} {k : Nat} (hk : k < l.length) (h : wd < ((nth l k).size : Int)) : shortAll l wd = false := by
  unfold shortAll
  rw [List.all_eq_false]
  exact ⟨l[k], List.getElem_mem _, by rw [← nth_eq hk]; simp; omega⟩
theorem shortAll_parts {l : List ByteArray} {wd : Int} (h : shortAll l wd = true) : ∀ i, i < l.length → ((nth l i).size : Int) ≤ wd := by
  intro i hi
  unfold shortAll at h
  rw [List.all_eq_true] at h
  have := h _ (List.getElem_mem hi)
  rw [decide_eq_true_eq] at this
  rw [nth_eq hi]; exact this
theorem fitA_parts {l : List ByteArray} {wd : Int} (h : fitA l wd = true) : (∀ i, i < l.length → ((nth l i).size : Int) ≤ wd) ∧ vWords l = true ∧ 1 ≤ wd ∧ wd ≤ 120 := by
  unfold fitA inR at h
  simp only [Bool.and_eq_true, decide_eq_true_eq] at h
  exact ⟨shortAll_parts h.1.1, h.1.2, h.2.1, h.2.2⟩
theorem wrapR_yes {l : List ByteArray} {wd : Int} (h : fitA l wd = true) : wrapR l wd = wrapB wd l := by simp [wrapR, h]
theorem wrapR_no {l : List ByteArray} {wd : Int} (h : fitA l wd = false) : wrapR l wd = [] := by simp [wrapR, h]
theorem wrapB_len (wd : Int) (l : List ByteArray) : (wrapB wd l).length ≤ l.length := by
  unfold wrapB; rw [List.length_map]; exact grW_len _ l _
theorem wrapR_len (l : List ByteArray) (wd : Int) : (wrapR l wd).length ≤ l.length := by
  unfold wrapR; split
  · exact wrapB_len wd l
  · exact Nat.zero_le _
end Go.Proofs.YtgfpbnafehpopaaDoor.pl
