/- Plain mathematics: lines and their margins. -/
import Derived.Test.YtgfpbnafehpopaaDoorPlainR
import Derived.Test.YtgfpbnafehpopaaDoorStrs
namespace Go.Proofs.YtgfpbnafehpopaaDoor.pl

def ld (s : ByteArray) : Nat := leadL s.data.toList
theorem ld_le (s : ByteArray) : ld s ≤ s.size := by have := leadL_le s.data.toList; rw [len_eq] at this; exact this
theorem leadL_sp {l : List UInt8} {k : Nat} (h : l[k]? = some 32) : leadL (l.drop k) = leadL (l.drop (k + 1)) + 1 := by
  obtain ⟨hk, e⟩ := List.getElem?_eq_some_iff.1 h
  rw [List.drop_eq_getElem_cons hk, e]; rfl
theorem leadL_no {l : List UInt8} {k : Nat} (h : ¬ l[k]? = some 32) : leadL (l.drop k) = 0 := by
  by_cases hk : k < l.length
  · rw [List.drop_eq_getElem_cons hk]
    unfold leadL
    rw [if_neg]
    intro e; exact h (by rw [List.getElem?_eq_getElem hk, e])
  · rw [List.drop_of_length_le (by omega)]; rfl
/-- where the spaces ahead end -/
theorem ld_at {s : ByteArray} {k : Nat} (h : leadL (s.data.toList.drop k) + k = ld s) (hk : k < s.size) (e : ¬ s[k] = 32) : ld s = k := by
  rw [leadL_no (by rw [get_some hk]; intro x; exact e (Option.some.inj x))] at h; omega
theorem ld_next {s : ByteArray} {k : Nat} (h : leadL (s.data.toList.drop k) + k = ld s) (hk : k < s.size) (e : s[k] = 32) : leadL (s.data.toList.drop (k + 1)) + (k + 1) = ld s := by
  rw [leadL_sp (by rw [get_some hk, e])] at h; omega
theorem ld_end {s : ByteArray} (h : leadL (s.data.toList.drop s.size) + s.size = ld s) : ld s = s.size := by
  rw [drop_all] at h; simp [leadL] at h; omega
theorem drop_bs_get {s t : ByteArray} {k : Nat} (ht : t = bs (s.data.toList.drop k)) (h0 : 0 < t.size) (hk : k < s.size) : t[0] = s[k] := by
  have h1 : t.data.toList[0]? = some t[0] := get_some h0
  have e : t.data.toList = s.data.toList.drop k := by rw [ht]; rfl
  rw [e, List.getElem?_drop, Nat.add_zero, get_some hk] at h1
  exact (Option.some.inj h1).symm
theorem drop_size {s : ByteArray} {k : Nat} : (bs (s.data.toList.drop k)).size = s.size - k := by rw [bs_size, List.length_drop, len_eq]
theorem drop_zero (s : ByteArray) : bs (s.data.toList.drop 0) = s := bs_self s
theorem drop_tail {s t : ByteArray} {k : Nat} (ht : t = bs (s.data.toList.drop k)) : t.extract 1 t.size = bs (s.data.toList.drop (k + 1)) := by
  apply ba_ext
  have e : t.data.toList = s.data.toList.drop k := by rw [ht]; rfl
  rw [Lib.extract_data, e, bs_data, List.drop_drop, List.take_of_length_le]
  rw [ht, drop_size, List.length_drop, len_eq]; omega
/-- a line without the spaces ahead -/
def ltrim (s : ByteArray) : ByteArray := bs (s.data.toList.drop (ld s))
theorem ltrim_zero {s : ByteArray} (h : s.size = 0) : ltrim s = s := by
  have := ld_le s
  have e : ld s = 0 := by omega
  rw [ltrim, e]; exact drop_zero s
theorem ltrim_size (s : ByteArray) : (ltrim s).size = s.size - ld s := drop_size

/-- lines -/
def validLs (ls : List ByteArray) : Bool := ls.all (fun s => validT s.data.toList) && decide (ls.length ≤ 20)
def okTo (ls : List ByteArray) (k : Nat) : Prop := ∀ i, i < k → validT (nth ls i).data.toList = true
theorem okTo_zero (ls : List ByteArray) : okTo ls 0 := fun _ h => absurd h (by omega)
theorem okTo_succ {ls : List ByteArray} {k : Nat} (h : okTo ls k) (e : validT (nth ls k).data.toList = true) : okTo ls (k + 1) := by
  intro i hi
  by_cases e2 : i = k
  · subst e2; exact e
  · exact h i (by omega)
theorem validLs_all {ls : List ByteArray} (h : okTo ls ls.length) : validLs ls = decide (ls.length ≤ 20) := by
  unfold validLs
  have : ls.all (fun s => validT s.data.toList) = true := by
    rw [List.all_eq_true]; intro x hx
    obtain ⟨i, hi, rfl⟩ := List.getElem_of_mem hx
    have := h i hi
    rw [nth_eq hi] at this; exact this
  rw [this]; rfl
theorem validLs_bad {ls : List ByteArray} {k : Nat} (hk : k < ls.length) (e : validT (nth ls k).data.toList = false) : validLs ls = false := by
  unfold validLs
  have : ls.all (fun s => validT s.data.toList) = false := by
    rw [List.all_eq_false]
    refine ⟨nth ls k, by rw [nth_eq hk]; exact List.getElem_mem _, by simp [e]⟩
  rw [this]; rfl
theorem validLs_long {ls : List ByteArray} (h : 20 < ls.length) : validLs ls = false := by
  unfold validLs; rw [decide_eq_false (p := ls.length ≤ 20) (by omega)]; simp
theorem validLs_len {ls : List ByteArray} (h : validLs ls = true) : ls.length ≤ 20 := by
  unfold validLs at h; simp only [Bool.and_eq_true, decide_eq_true_eq] at h; exact h.2
theorem validLs_nth {ls : List ByteArray} (h : validLs ls = true) {i : Nat} (hi : i < ls.length) : validT (nth ls i).data.toList = true := by
  unfold validLs at h; simp only [Bool.and_eq_true, List.all_eq_true] at h
  rw [nth_eq hi]; exact h.1 _ (List.getElem_mem hi)

/-- the least lead so far, -1 for none -/
def stepM (o : Int) (s : ByteArray) : Int := if ld s < s.size ∧ (o < 0 ∨ (ld s : Int) < o) then (ld s : Int) else o
def mTo (ls : List ByteArray) (k : Nat) : Int := (ls.take k).foldl stepM (-1)
theorem mTo_zero (ls : List ByteArray) : mTo ls 0 = -1 := rfl
theorem mTo_succ {ls : List ByteArray} {k : Nat} (h : k < ls.length) : mTo ls (k + 1) = stepM (mTo ls k) (nth ls k) := by
  unfold mTo
  rw [List.take_succ_eq_append_getElem h, List.foldl_append, nth_eq h]; rfl
def marginL (ls : List ByteArray) : Int := max (mTo ls ls.length) 0
theorem stepM_yes {o : Int} {s : ByteArray} (h1 : ld s < s.size) (h2 : o < 0 ∨ (ld s : Int) < o) : stepM o s = ld s := by unfold stepM; rw [if_pos ⟨h1, h2⟩]
theorem stepM_no {o : Int} {s : ByteArray} (h : s.size ≤ ld s ∨ (0 ≤ o ∧ o ≤ ld s)) : stepM o s = o := by
  unfold stepM; rw [if_neg]; rintro ⟨h1, h2⟩
  rcases h with h | ⟨h, h'⟩
  · omega
  · rcases h2 with h2 | h2 <;> omega
theorem mTo_bd {ls : List ByteArray} (h : ∀ i, i < ls.length → (nth ls i).size ≤ 1048576) : ∀ k, k ≤ ls.length → -1 ≤ mTo ls k ∧ mTo ls k ≤ 1048576
  | 0, _ => by rw [mTo_zero]; omega
  | k + 1, hk => by
    rw [mTo_succ (by omega)]
    have h1 := mTo_bd h k (by omega)
    have h2 := h k (by omega)
    have h3 := ld_le (nth ls k)
    unfold stepM; split <;> omega
/-- MarginOf -/
def marginB (ls : List ByteArray) : Int := if validLs ls = true then marginL ls else -1
theorem marginB_ok {ls : List ByteArray} (h : validLs ls = true) : marginB ls = marginL ls := by simp [marginB, h]
theorem marginB_no {ls : List ByteArray} (h : validLs ls = false) : marginB ls = -1 := by simp [marginB, h]
theorem validLs_size {l : List ByteArray} (h : validLs l = true) : ∀ i, i < l.length → (nth l i).size ≤ 120 := fun _ hi => validT_size (validLs_nth h hi)
end Go.Proofs.YtgfpbnafehpopaaDoor.pl
