/- Plain mathematics: the margins of changed lines. -/
import Derived.Test.YtkbfceahhginhaaRRRRDoorRRRRPlainD
import Derived.Test.YtkbfceahhginhaaRRRRDoorRRRRPlainL
import Derived.Test.YtkbfceahhginhaaRRRRDoorRRRRPlainE
namespace Go.Proofs.YtkbfceahhginhaaRRRRDoorRRRR.pl

theorem lead_take : ∀ (l : List UInt8) (m : Nat), m ≤ leadL l → l.take m = spL m
  | _, 0, _ => rfl
  | [], m + 1, h => by simp [leadL] at h
  | c :: r, m + 1, h => by
    by_cases e : c = 32
    · subst e
      have h' : m ≤ leadL r := by simp [leadL] at h; omega
      rw [List.take_succ_cons, lead_take r m h']; rfl
    · simp [leadL, e] at h
theorem lead_drop : ∀ (l : List UInt8) (m : Nat), m ≤ leadL l → leadL (l.drop m) + m = leadL l
  | _, 0, _ => by simp
  | [], m + 1, h => by simp [leadL] at h
  | c :: r, m + 1, h => by
    by_cases e : c = 32
    · subst e
      have h' : m ≤ leadL r := by simp [leadL] at h; omega
      have := lead_drop r m h'
      rw [List.drop_succ_cons]; simp [leadL]; omega
    · simp [leadL, e] at h
theorem lead_put (l : List UInt8) : ∀ n, leadL (spL n ++ l) = n + leadL l
  | 0 => by simp [spL]
  | n + 1 => by
    have := lead_put l n
    unfold spL at *
    rw [List.replicate_succ, List.cons_append]; simp [leadL]; omega
theorem blank_words {x : ByteArray} (h : x.size ≤ ld x) : wordsOf x = [] := by
  by_cases hv : validT x.data.toList = true
  · rw [wordsOf_ok hv]
    have h1 := lead_take x.data.toList x.size h
    rw [List.take_of_length_le (by rw [len_eq]; exact Nat.le_refl _)] at h1
    have h2 := spl_flat x.data.toList []
    rw [h1, without_sp] at h2
    have h3 := wordsL_good x.data.toList
    unfold wordsB wordsL
    cases e : spl [] x.data.toList with
    | nil => rfl
    | cons y r =>
      rw [h1] at e
      rw [e] at h2
      simp at h2
      exact absurd h2.1 (h3 y (by unfold wordsL; rw [h1, e]; exact List.mem_cons_self)).1
  · exact wordsOf_no (by simpa using hv)
/-- the first bytes of a line are spaces -/
theorem ahead_sp {x : ByteArray} {m : Nat} (h : m ≤ ld x) : bs (without (x.extract 0 m).data.toList 32) = ⟨#[]⟩ := by
  have e : (x.extract 0 m).data.toList = spL m := by
    rw [Lib.extract_data, List.drop_zero, Nat.sub_zero]; exact lead_take _ _ h
  rw [e, without_sp]; rfl

def shifted (d : Int) (l l' : List ByteArray) : Prop := l'.length = l.length ∧ ∀ i, i < l.length →
  (ld (nth l i) < (nth l i).size ∧ ld (nth l' i) < (nth l' i).size ∧ (ld (nth l' i) : Int) = ld (nth l i) + d) ∨ ((nth l i).size ≤ ld (nth l i) ∧ (nth l' i).size ≤ ld (nth l' i))
theorem mTo_shift {d : Int} {l l' : List ByteArray} (h : shifted d l l') : ∀ k, k ≤ l.length → (mTo l k = -1 ∧ mTo l' k = -1) ∨ (0 ≤ mTo l k ∧ 0 ≤ mTo l' k ∧ mTo l' k = mTo l k + d)
  | 0, _ => .inl ⟨rfl, rfl⟩
  | k + 1, hk => by
    have ih := mTo_shift h k (by omega)
    have hk' : k < l.length := by omega
    rw [mTo_succ hk', mTo_succ (by rw [h.1]; exact hk')]
    rcases h.2 k hk' with ⟨h1, h2, h3⟩ | ⟨h1, h2⟩
    · rcases ih with ⟨a, b⟩ | ⟨a, b, c⟩
      · right
        rw [stepM_yes h1 (.inl (by omega)), stepM_yes h2 (.inl (by omega))]; omega
      · right
        by_cases e : (ld (nth l k) : Int) < mTo l k
        · rw [stepM_yes h1 (.inr e), stepM_yes h2 (.inr (by omega))]; omega
        · rw [stepM_no (.inr ⟨a, by omega⟩), stepM_no (.inr ⟨b, by omega⟩)]; exact ⟨a, b, c⟩
    · rw [stepM_no (.inl h1), stepM_no (.inl h2)]; exact ih
theorem ld_empty : ld ⟨#[]⟩ = 0 := rfl
theorem ded_shift {l : List ByteArray} : shifted (-(((marginL l).toNat : Nat) : Int)) l (ded l (marginL l).toNat) := by
  refine ⟨ded_len _ _, fun i hi => ?_⟩
  rw [nth_ded hi]
  by_cases e : (nth l i).size ≤ ld (nth l i)
  · exact .inr ⟨e, by rw [ded_blank e]; exact Nat.le_refl _⟩
  · left
    have hm := margin_le hi (by omega)
    have h1 := lead_drop (nth l i).data.toList _ hm
    rw [ded_full e]
    have h2 : ld (bs ((nth l i).data.toList.drop (marginL l).toNat)) + (marginL l).toNat = ld (nth l i) := h1
    have h3 : (bs ((nth l i).data.toList.drop (marginL l).toNat)).size = (nth l i).size - (marginL l).toNat := drop_size
    refine ⟨by omega, by omega, by omega⟩
theorem ded_margin {l : List ByteArray} : marginL (ded l (marginL l).toNat) = 0 := by
  have h := mTo_shift (ded_shift (l := l)) l.length (Nat.le_refl _)
  have hn := margin_nat l
  obtain ⟨m, hm⟩ : ∃ m, m = (marginL l).toNat := ⟨_, rfl⟩
  rw [← hm] at h hn ⊢
  have hM : marginL l = max (mTo l l.length) 0 := rfl
  show max (mTo (ded l m) (ded l m).length) 0 = 0
  rw [ded_len]
  omega
theorem valid_tk {x : ByteArray} (h : validT x.data.toList = true) (m : Nat) : validT (tkS m (ebS x)).data.toList = true := by
  by_cases e : x.size ≤ ld x
  · rw [ded_blank e]; rfl
  · rw [ded_full e]
    show validT (x.data.toList.drop m) = true
    unfold validT at h ⊢
    simp only [Bool.and_eq_true, List.all_eq_true, decide_eq_true_eq] at h ⊢
    exact ⟨fun c hc => h.1 c (List.mem_of_mem_drop hc), by rw [List.length_drop]; omega⟩
theorem ded_valid {l : List ByteArray} (h : validLs l = true) (m : Nat) : validLs (ded l m) = true := by
  unfold validLs at h ⊢
  simp only [Bool.and_eq_true, List.all_eq_true, decide_eq_true_eq] at h ⊢
  refine ⟨fun x hx => ?_, by rw [ded_len]; exact h.2⟩
  unfold ded at hx
  rw [List.mem_map] at hx
  obtain ⟨y, hy, rfl⟩ := hx
  exact valid_tk (h.1 y hy) m
theorem dedR_margin {l : List ByteArray} (h : validLs l = true) : marginB (dedR l) = 0 := by
  rw [dedR_ok h, marginB_ok (ded_valid h _), ded_margin]
theorem dedR_size {l : List ByteArray} (M : Nat) (h : ∀ i, i < l.length → (nth l i).size ≤ M) : ∀ i, i < (dedR l).length → (nth (dedR l) i).size ≤ M := by
  intro i hi
  by_cases hv : validLs l = true
  · rw [dedR_ok hv] at hi ⊢
    rw [ded_len] at hi
    rw [nth_ded hi]
    have h1 := tkS_size (marginL l).toNat (ebS (nth l i))
    have h2 := ebS_size (nth l i)
    have h3 := h i hi
    omega
  · rw [dedR_no (by simpa using hv)] at hi
    simp at hi
theorem ind_shift {l : List ByteArray} {n : Nat} : shifted n l (ind l n) := by
  refine ⟨ind_len _ _, fun i hi => ?_⟩
  rw [nth_ind hi]
  by_cases e : (nth l i).size ≤ ld (nth l i)
  · exact .inr ⟨e, by rw [ind_blank e]; exact Nat.le_refl _⟩
  · left
    rw [ind_full e]
    have h1 : ld (spB n ++ nth l i) = n + ld (nth l i) := by
      unfold ld
      rw [ByteArray.toList_data_append]; exact lead_put _ n
    have h2 : (spB n ++ nth l i).size = n + (nth l i).size := by rw [ByteArray.size_append, spB_size]
    refine ⟨by omega, by omega, by omega⟩
end Go.Proofs.YtkbfceahhginhaaRRRRDoorRRRR.pl
