/- Plain mathematics: what filled lines are made of. -/
import Derived.Test.YtoeejepamlnkkaaPlainFw
import Derived.Test.YtoeejepamlnkkaaPlainV
namespace Go.Proofs.Ytoeejepamlnkkaa.pl

theorem szJ_pos {g : List ByteArray} (hne : g ≠ []) (h : ∀ x ∈ g, 1 ≤ x.size) : 1 ≤ szJ g := by
  cases g with
  | nil => exact absurd rfl hne
  | cons x r =>
    have h1 := szJ_grow r [x]
    rw [szJ_one] at h1
    have h2 := h x (by simp)
    have h3 : szJ ([x] ++ r) = szJ (x :: r) := rfl
    omega
theorem words_ge {l : List ByteArray} (h : vWords l = true) : ∀ x ∈ l, 1 ≤ x.size := by
  intro x hx
  obtain ⟨i, hi, rfl⟩ := List.getElem_of_mem hx
  rw [← nth_eq hi]
  exact (wordOK_parts ((vWords_parts h).2 i hi)).1
theorem ptS_full {m : Nat} {s : ByteArray} (h : 1 ≤ s.size) : ptS m s = spB m ++ s := ptS_no (by omega)
theorem greedy_mem {wd : Int} {l : List ByteArray} {k : Nat} (hk : k ≤ l.length) {g : List ByteArray} (hg : g ∈ greedy wd l k) : g ≠ [] ∧ ∀ x ∈ g, x ∈ l := by
  refine ⟨grW_full _ _ _ g hg, fun x hx => ?_⟩
  have h1 : x ∈ (greedy wd l k).flatten := List.mem_flatten.2 ⟨g, hg, hx⟩
  have h2 : (greedy wd l k).flatten = l.take k := grW_flatten _ _ _ hk
  rw [h2] at h1
  exact List.mem_of_mem_take h1
theorem wrap_pt {wd : Int} {r : Nat} {l : List ByteArray} (h : ∀ x ∈ l, 1 ≤ x.size) : (wrapB wd l).map (ptS r) = (wrapB wd l).map (spB r ++ ·) := by
  apply List.map_congr_left
  intro s hs
  unfold wrapB at hs
  obtain ⟨g, hg, rfl⟩ := List.mem_map.1 hs
  obtain ⟨h1, h2⟩ := greedy_mem (Nat.le_refl _) hg
  exact ptS_full (by rw [jline_size]; exact szJ_pos h1 (fun x hx => h x (h2 x hx)))
theorem vWords_drop {l : List ByteArray} (h : vWords l = true) (n : Nat) : vWords (l.drop n) = true := by
  unfold vWords at h ⊢
  rw [Bool.and_eq_true, decide_eq_true_iff, List.all_eq_true] at h
  rw [Bool.and_eq_true, decide_eq_true_iff, List.all_eq_true]
  exact ⟨fun x hx => h.1 x (List.mem_of_mem_drop hx), by rw [List.length_drop]; omega⟩
theorem fitA_drop {l : List ByteArray} {wd : Int} {n r : Nat} (h : vWords l = true) (h2 : wd ≤ 120) (hn : n < l.length) : fitA (l.drop n) (wd - r) = shortAll (l.drop n) (wd - r) := by
  unfold fitA
  rw [vWords_drop h, Bool.and_true]
  by_cases hs : shortAll (l.drop n) (wd - r) = true
  · rw [hs, Bool.true_and]
    have h1 := shortAll_parts hs 0 (by rw [List.length_drop]; omega)
    have h3 := words_ge (vWords_drop h n) _ (List.getElem_mem (show 0 < (l.drop n).length by rw [List.length_drop]; omega))
    rw [nth_eq (by rw [List.length_drop]; omega)] at h1
    exact inR_true (by omega) (by omega)
  · have hs' : shortAll (l.drop n) (wd - r) = false := by simpa using hs
    rw [hs']; rfl
/-- what the program does, told by fillS -/
theorem fill_none0 {l : List ByteArray} {wd : Int} {a b : Nat} (hl : l ≠ []) (h : cfit (wd - a) l = 0) : fillS wd b (l.length + 1) a l = none := fillS_none hl h
theorem fill_all {l : List ByteArray} {wd : Int} {a b : Nat} (hl : l ≠ []) (h : cfit (wd - a) l = l.length) : fillS wd b (l.length + 1) a l = some [spB a ++ jline l] := by
  have h0 : ¬ cfit (wd - a) l = 0 := by rw [h]; intro e; exact hl (List.length_eq_zero_iff.1 e)
  rw [fillS_some h0, h, List.drop_length, fillS_nil, List.take_length]; rfl
theorem fill_rest {l : List ByteArray} {wd : Int} {a b : Nat} (hv : vWords l = true) (h2 : wd ≤ 120) (h0 : ¬ cfit (wd - a) l = 0) (hn : cfit (wd - a) l < l.length) :
    fillS wd b (l.length + 1) a l = if fitA (l.drop (cfit (wd - a) l)) (wd - b) = true then some ((spB a ++ jline (l.take (cfit (wd - a) l))) :: (wrapR (l.drop (cfit (wd - a) l)) (wd - b)).map (ptS b)) else none := by
  rw [fillS_some h0, fillS_wrap _ _ (by rw [List.length_drop]; omega), ← fitA_drop hv h2 hn]
  split
  · rename_i hf
    rw [wrapR_yes hf, wrap_pt (fun x hx => words_ge hv x (List.mem_of_mem_drop hx))]; rfl
  · rfl

/-- the lines that are filled: groups of the words, with spaces ahead -/
theorem fillS_shape {wd : Int} {r : Nat} : ∀ (f m : Nat) (l o : List ByteArray), fillS wd r f m l = some o →
    ∃ gs : Gs, o.length = gs.length ∧ gs.flatten = l ∧ (∀ g ∈ gs, g ≠ []) ∧ ∀ i g, gs[i]? = some g → nth o i = spB (if i = 0 then m else r) ++ jline g ∧ (szJ g : Int) + (((if i = 0 then m else r) : Nat) : Int) ≤ wd
  | f, m, [], o, h => by
    rw [fillS_nil] at h
    have := Option.some.inj h
    subst this
    exact ⟨[], rfl, rfl, (fun _ h => by cases h), fun i g h => by simp at h⟩
  | 0, m, x :: t, o, h => by unfold fillS at h; cases h
  | f + 1, m, x :: t, o, h => by
    by_cases h0 : cfit (wd - m) (x :: t) = 0
    · rw [fillS_none (by simp) h0] at h; cases h
    · rw [fillS_some h0, Option.map_eq_some_iff] at h
      obtain ⟨o2, ho2, rfl⟩ := h
      obtain ⟨gs, h1, h2, h3, h4⟩ := fillS_shape f r _ o2 ho2
      have hfit := cfit_fits (wd := wd - m) (l := x :: t) (by omega)
      have hle := cfit_le (wd - m) (x :: t)
      refine ⟨(x :: t).take (cfit (wd - m) (x :: t)) :: gs, by simp [h1], by rw [List.flatten_cons, h2, List.take_append_drop], ?_, ?_⟩
      · intro g hg
        rcases List.mem_cons.1 hg with rfl | hg
        · intro e
          have := congrArg List.length e
          rw [List.length_take, List.length_nil] at this; omega
        · exact h3 g hg
      · intro i g hi
        cases i with
        | zero =>
          simp only [List.getElem?_cons_zero, Option.some.injEq] at hi
          subst hi
          rw [if_pos rfl]
          exact ⟨rfl, by omega⟩
        | succ i =>
          simp only [List.getElem?_cons_succ] at hi
          obtain ⟨e1, e2⟩ := h4 i g hi
          rw [if_neg (by omega)]
          have e3 : (if i = 0 then r else r) = r := by split <;> rfl
          rw [e3] at e1 e2
          exact ⟨e1, e2⟩
theorem fillS_len {wd : Int} {r f m : Nat} {l o : List ByteArray} (h : fillS wd r f m l = some o) : o.length ≤ l.length := by
  obtain ⟨gs, h1, h2, h3, h9⟩ := fillS_shape f m l o h
  rw [h1, ← h2]
  clear h1 h2 h9
  induction gs with
  | nil => exact Nat.le_refl _
  | cons a t ih =>
    have h4 := List.length_pos_iff.2 (h3 a (by simp))
    have h5 := ih (fun g hg => h3 g (by simp [hg]))
    rw [List.flatten_cons, List.length_append, List.length_cons]; omega
theorem fillR_len (l : List ByteArray) (wd a b : Int) : (fillR l wd a b).length ≤ l.length := by
  unfold fillR
  split
  · cases h : fillS wd b.toNat (l.length + 1) a.toNat l with
    | none => exact Nat.zero_le _
    | some o => exact fillS_len h
  · exact Nat.zero_le _
end Go.Proofs.Ytoeejepamlnkkaa.pl
