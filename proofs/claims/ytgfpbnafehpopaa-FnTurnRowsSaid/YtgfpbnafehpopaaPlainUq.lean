/- Plain mathematics: the signs ahead of a line, and what stands behind them. -/
import Derived.Test.YtgfpbnafehpopaaPlainM
import Derived.Lib.Strings
namespace Go.Proofs.Ytgfpbnafehpopaa.pl

/-- how many signs stand ahead -/
def gtL : List UInt8 → Nat
  | [] => 0
  | c :: r => if c = 62 then gtL r + 1 else 0
theorem gtL_le : ∀ l, gtL l ≤ l.length
  | [] => Nat.le_refl _
  | c :: r => by
    unfold gtL; split
    · have := gtL_le r; simp; omega
    · simp
def gt (s : ByteArray) : Nat := gtL s.data.toList
theorem gt_le (s : ByteArray) : gt s ≤ s.size := by have := gtL_le s.data.toList; rw [len_eq] at this; exact this
theorem gtL_sg {l : List UInt8} {k : Nat} (h : l[k]? = some 62) : gtL (l.drop k) = gtL (l.drop (k + 1)) + 1 := by
  obtain ⟨hk, e⟩ := List.getElem?_eq_some_iff.1 h
  rw [List.drop_eq_getElem_cons hk, e]; rfl
theorem gtL_no {l : List UInt8} {k : Nat} (h : ¬ l[k]? = some 62) : gtL (l.drop k) = 0 := by
  by_cases hk : k < l.length
  · rw [List.drop_eq_getElem_cons hk]
    unfold gtL
    rw [if_neg]
    intro e; exact h (by rw [List.getElem?_eq_getElem hk, e])
  · rw [List.drop_of_length_le (by omega)]; rfl
theorem gt_at {s : ByteArray} {k : Nat} (h : gtL (s.data.toList.drop k) + k = gt s) (hk : k < s.size) (e : ¬ s[k] = 62) : gt s = k := by
  rw [gtL_no (by rw [get_some hk]; intro x; exact e (Option.some.inj x))] at h; omega
theorem gt_next {s : ByteArray} {k : Nat} (h : gtL (s.data.toList.drop k) + k = gt s) (hk : k < s.size) (e : s[k] = 62) : gtL (s.data.toList.drop (k + 1)) + (k + 1) = gt s := by
  rw [gtL_sg (by rw [get_some hk, e])] at h; omega
theorem gt_end {s : ByteArray} (h : gtL (s.data.toList.drop s.size) + s.size = gt s) : gt s = s.size := by
  rw [drop_all] at h; simp [gtL] at h; omega
theorem gt_zero (s : ByteArray) : gtL (s.data.toList.drop 0) + 0 = gt s := rfl
/-- a line without the signs ahead -/
def gtrim (s : ByteArray) : ByteArray := bs (s.data.toList.drop (gt s))
theorem gtrim_zero {s : ByteArray} (h : s.size = 0) : gtrim s = s := by
  have := gt_le s
  have e : gt s = 0 := by omega
  rw [gtrim, e]; exact drop_zero s
theorem gtrim_size (s : ByteArray) : (gtrim s).size = s.size - gt s := drop_size
theorem byte_ne62 {c : UInt8} (h : c ≠ 62) : ¬ (c.toNat : Int) = 62 := by
  intro e
  apply h
  apply UInt8.toNat_inj.1
  show c.toNat = 62
  omega

/-- where what is told begins -/
def uk (s : ByteArray) : Nat := if gt s = 0 then 0 else if s.data.toList[gt s]? = some 32 then gt s + 1 else gt s
def unqB (s : ByteArray) : ByteArray := bs (s.data.toList.drop (uk s))
theorem uk_zero {s : ByteArray} (h : gt s = 0) : uk s = 0 := by simp [uk, h]
theorem uk_sp {s : ByteArray} (h : 0 < gt s) (hk : gt s < s.size) (e : s[gt s] = 32) : uk s = gt s + 1 := by
  unfold uk
  rw [if_neg (by omega), if_pos (by rw [get_some hk, e])]
theorem uk_no {s : ByteArray} (h : 0 < gt s) (hk : gt s < s.size) (e : ¬ s[gt s] = 32) : uk s = gt s := by
  unfold uk
  rw [if_neg (by omega), if_neg (by rw [get_some hk]; intro x; exact e (Option.some.inj x))]
theorem uk_end {s : ByteArray} (hk : gt s = s.size) : uk s = gt s := by
  unfold uk
  by_cases h : gt s = 0
  · rw [if_pos h, h]
  · rw [if_neg h, if_neg]
    rw [List.getElem?_eq_none (by rw [len_eq]; omega)]; simp
theorem uk_le (s : ByteArray) : uk s ≤ s.size := by
  have := gt_le s
  unfold uk
  split
  · omega
  · split
    · rename_i h
      have := (List.getElem?_eq_some_iff.1 h).1
      rw [len_eq] at this; omega
    · exact this
theorem unq_size (s : ByteArray) : (unqB s).size = s.size - uk s := drop_size
theorem uk_cases (s : ByteArray) : uk s = gt s ∨ (0 < gt s ∧ uk s = gt s + 1 ∧ ∃ hk : gt s < s.size, s[gt s] = 32) := by
  unfold uk
  by_cases h : gt s = 0
  · left; rw [if_pos h, h]
  · rw [if_neg h]
    by_cases h2 : s.data.toList[gt s]? = some 32
    · right
      rw [if_pos h2]
      have hk : gt s < s.size := by have := (List.getElem?_eq_some_iff.1 h2).1; rwa [len_eq] at this
      exact ⟨by omega, rfl, hk, by rw [get_some hk] at h2; exact Option.some.inj h2⟩
    · left; rw [if_neg h2]
theorem hasP_sp (l : List UInt8) : Lib.hasPrefix l [32] = decide (l[0]? = some 32) := by
  unfold Lib.hasPrefix
  cases l with
  | nil => rfl
  | cons c r =>
    by_cases h : c = 32
    · subst h; rfl
    · have h2 : ¬ (32 : UInt8) = c := fun e => h e.symm
      simp [List.isPrefixOf, h, h2]
theorem hasP_gt (l : List UInt8) : Lib.hasPrefix l [62] = decide (l[0]? = some 62) := by
  unfold Lib.hasPrefix
  cases l with
  | nil => rfl
  | cons c r =>
    by_cases h : c = 62
    · subst h; rfl
    · have h2 : ¬ (62 : UInt8) = c := fun e => h e.symm
      simp [List.isPrefixOf, h, h2]
/-- what TrimPrefix leaves of what stands behind the signs -/
theorem trimP_unq {s : ByteArray} (h : 0 < gt s) : (⟨(Lib.trimPrefix (gtrim s).data.toList [32]).toArray⟩ : ByteArray) = unqB s := by
  unfold Lib.trimPrefix
  rw [hasP_sp]
  have e : (gtrim s).data.toList = s.data.toList.drop (gt s) := rfl
  rw [e, List.getElem?_drop, Nat.add_zero]
  by_cases h2 : s.data.toList[gt s]? = some 32
  · rw [if_pos (decide_eq_true h2), List.drop_drop]
    unfold unqB uk
    rw [if_neg (by omega), if_pos h2]; rfl
  · rw [if_neg (fun e => h2 (of_decide_eq_true e))]
    unfold unqB uk
    rw [if_neg (by omega), if_neg h2]; rfl
theorem unq_none {s : ByteArray} (h : gt s = 0) : unqB s = s := by
  unfold unqB; rw [uk_zero h]; exact drop_zero s
theorem ex_drop62 {s : ByteArray} {k : Nat} : s.extract k s.size = bs (s.data.toList.drop k) := by
  apply ba_ext
  rw [Lib.extract_data, bs_data, List.take_of_length_le]
  rw [List.length_drop, len_eq]; exact Nat.le_refl _
def gtR (s : ByteArray) : Int := if validT s.data.toList = true then (gt s : Int) else -1
def unqR (s : ByteArray) : ByteArray := if validT s.data.toList = true then unqB s else bs []
theorem gtR_yes {s : ByteArray} (h : validT s.data.toList = true) : gtR s = (gt s : Int) := by simp [gtR, h]
theorem gtR_no {s : ByteArray} (h : validT s.data.toList = false) : gtR s = -1 := by simp [gtR, h]
theorem unqR_yes {s : ByteArray} (h : validT s.data.toList = true) : unqR s = unqB s := by simp [unqR, h]
theorem unqR_no {s : ByteArray} (h : validT s.data.toList = false) : unqR s = bs [] := by simp [unqR, h]
/-- the signs ahead are all signs -/
theorem gtL_take : ∀ (l : List UInt8), ∀ c ∈ l.take (gtL l), c = 62
  | [] => by simp
  | a :: r => by
    intro c hc
    unfold gtL at hc
    split at hc
    · rename_i h
      rw [List.take_succ_cons] at hc
      rcases List.mem_cons.1 hc with h1 | h1
      · rw [h1]; exact h
      · exact gtL_take r c h1
    · simp at hc
theorem gt_stop {s : ByteArray} (h : gt s < s.size) : ¬ s[gt s] = 62 := by
  intro e
  have h1 : ∀ l : List UInt8, ¬ l[gtL l]? = some 62 := by
    intro l
    induction l with
    | nil => simp
    | cons c r ih =>
      unfold gtL
      split
      · simpa using ih
      · rename_i h2; simpa using h2
  exact h1 s.data.toList (by have := get_some h; unfold gt at this e; rw [this, e])
end Go.Proofs.Ytgfpbnafehpopaa.pl
