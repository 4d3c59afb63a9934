/- Plain mathematics: the words of a text. -/
import Derived.Test.YtgfpbnafehpopaaDoorPlain
import Derived.Lib.Strings
namespace Go.Proofs.YtgfpbnafehpopaaDoor.pl

def bs (l : List UInt8) : ByteArray := ⟨l.toArray⟩
theorem bs_data (l : List UInt8) : (bs l).data.toList = l := rfl
theorem bs_size (l : List UInt8) : (bs l).size = l.length := rfl
theorem bs_inj {a b : List UInt8} (h : bs a = bs b) : a = b := by rw [← bs_data a, h, bs_data]
theorem ba_ext {a b : ByteArray} (h : a.data.toList = b.data.toList) : a = b := by
  obtain ⟨⟨x⟩⟩ := a; obtain ⟨⟨y⟩⟩ := b; simp at h; rw [h]
theorem bs_self (s : ByteArray) : bs s.data.toList = s := ba_ext rfl

/-- the bytes from a on, up to b -/
def seg (l : List UInt8) (a b : Nat) : List UInt8 := (l.drop a).take (b - a)
theorem ex_bs (s : ByteArray) (a b : Nat) : s.extract a b = bs (seg s.data.toList a b) := ba_ext (by rw [Lib.extract_data, bs_data]; rfl)
theorem seg_self (l : List UInt8) (a : Nat) : seg l a a = [] := by simp [seg]
theorem seg_succ {s : ByteArray} {a k : Nat} (ha : a ≤ k) (hk : k < s.size) : seg s.data.toList a (k + 1) = seg s.data.toList a k ++ [s[k]] := by
  unfold seg
  have hk' : k < s.data.toList.length := by rw [len_eq]; exact hk
  rw [show k + 1 - a = (k - a) + 1 from by omega, List.take_succ_eq_append_getElem (by rw [List.length_drop]; omega)]
  congr 1
  rw [List.getElem_drop]
  congr 1
  have : a + (k - a) = k := by omega
  simp only [this]
  rfl
theorem drop_cons {s : ByteArray} {k : Nat} (hk : k < s.size) : s.data.toList.drop k = s[k] :: s.data.toList.drop (k + 1) := by
  rw [List.drop_eq_getElem_cons (by rw [len_eq]; exact hk)]; rfl
theorem drop_all (s : ByteArray) : s.data.toList.drop s.size = [] := List.drop_of_length_le (by rw [len_eq]; exact Nat.le_refl _)
theorem seg_ne {s : ByteArray} {a k : Nat} (ha : a < k) (hk : k ≤ s.size) : seg s.data.toList a k ≠ [] := by
  intro h
  have := congrArg List.length h
  simp only [seg, List.length_take, List.length_drop, len_eq, List.length_nil] at this
  omega
theorem seg_len {s : ByteArray} {a k : Nat} (hk : k ≤ s.size) : (seg s.data.toList a k).length = k - a := by
  simp only [seg, List.length_take, List.length_drop, len_eq]; omega

/-- the words, one byte after the other; cur: the word that is being read -/
def spl (cur : List UInt8) : List UInt8 → List (List UInt8)
  | [] => if cur = [] then [] else [cur]
  | c :: r => if c = 32 then (if cur = [] then spl [] r else cur :: spl [] r) else spl (cur ++ [c]) r
def wordsL (l : List UInt8) : List (List UInt8) := spl [] l
def wordsB (s : ByteArray) : List ByteArray := (wordsL s.data.toList).map bs

theorem spl_len (l : List UInt8) : ∀ cur, (spl cur l).length ≤ l.length + (if cur = [] then 0 else 1) := by
  induction l with
  | nil => intro cur; unfold spl; split <;> simp
  | cons c r ih =>
    intro cur
    unfold spl
    by_cases h : c = 32
    · rw [if_pos h]
      have := ih []
      simp only [if_true] at this
      split <;> simp only [List.length_cons] <;> omega
    · rw [if_neg h]
      have := ih (cur ++ [c])
      simp only [List.append_eq_nil_iff, List.cons_ne_nil, and_false, if_false] at this
      simp only [List.length_cons]
      omega
theorem wordsL_len (l : List UInt8) : (wordsL l).length ≤ l.length := by
  have := spl_len l []; simpa [wordsL] using this

/-- what holds behind k bytes: the words so far, and where the word begins that is being read, -1 for none -/
def WInv (s : ByteArray) (done : List (List UInt8)) (f : Int) (k : Nat) : Prop :=
  done.length ≤ k ∧ ((f = -1 ∧ done ++ spl [] (s.data.toList.drop k) = wordsL s.data.toList) ∨
  (∃ j : Nat, f = j ∧ j < k ∧ done ++ spl (seg s.data.toList j k) (s.data.toList.drop k) = wordsL s.data.toList))
theorem winv_start (s : ByteArray) : WInv s [] (-1) 0 := ⟨Nat.le_refl _, .inl ⟨rfl, rfl⟩⟩
theorem winv_begin {s : ByteArray} {done : List (List UInt8)} {k : Nat} (h : WInv s done (-1) k) (hk : k < s.size) (hc : s[k] ≠ 32) : WInv s done k (k + 1) := by
  obtain ⟨hl, h⟩ := h
  refine ⟨by omega, .inr ⟨k, rfl, by omega, ?_⟩⟩
  rcases h with ⟨_, h⟩ | ⟨j, h, _⟩
  · rw [← h, drop_cons hk, seg_succ (Nat.le_refl _) hk, seg_self]
    conv => rhs; unfold spl
    rw [if_neg hc]
  · omega
theorem winv_grow {s : ByteArray} {done : List (List UInt8)} {k j : Nat} (h : WInv s done j k) (hk : k < s.size) (hc : s[k] ≠ 32) : WInv s done j (k + 1) := by
  obtain ⟨hl, h⟩ := h
  refine ⟨by omega, .inr ⟨j, rfl, ?_⟩⟩
  rcases h with ⟨h, _⟩ | ⟨j', h, hj, h2⟩
  · omega
  · obtain rfl : j = j' := by omega
    refine ⟨by omega, ?_⟩
    rw [← h2, drop_cons hk, seg_succ (by omega) hk]
    conv => rhs; unfold spl
    rw [if_neg hc]
theorem winv_skip {s : ByteArray} {done : List (List UInt8)} {k : Nat} (h : WInv s done (-1) k) (hk : k < s.size) (hc : s[k] = 32) : WInv s done (-1) (k + 1) := by
  obtain ⟨hl, h⟩ := h
  refine ⟨by omega, .inl ⟨rfl, ?_⟩⟩
  rcases h with ⟨_, h⟩ | ⟨j, h, _⟩
  · rw [← h, drop_cons hk]
    conv => rhs; unfold spl
    rw [if_pos hc, if_pos rfl]
  · omega
theorem winv_end {s : ByteArray} {done : List (List UInt8)} {k j : Nat} (h : WInv s done j k) (hk : k < s.size) (hc : s[k] = 32) : j < k ∧ WInv s (done ++ [seg s.data.toList j k]) (-1) (k + 1) := by
  obtain ⟨hl, h⟩ := h
  rcases h with ⟨h, _⟩ | ⟨j', h, hj, h2⟩
  · omega
  · obtain rfl : j = j' := by omega
    refine ⟨hj, by simp; omega, .inl ⟨rfl, ?_⟩⟩
    rw [← h2, drop_cons hk]
    conv => rhs; unfold spl
    rw [if_pos hc, if_neg (seg_ne hj (by omega)), List.append_assoc]
    rfl
theorem winv_from {s : ByteArray} {done : List (List UInt8)} {f : Int} {k : Nat} (h : WInv s done f k) : f = -1 ∨ ∃ j : Nat, f = j ∧ j < k := by
  rcases h.2 with h | ⟨j, h, hj, _⟩
  · exact .inl h.1
  · exact .inr ⟨j, h, hj⟩
theorem winv_done {s : ByteArray} {done : List (List UInt8)} (h : WInv s done (-1) s.size) : done = wordsL s.data.toList := by
  rcases h.2 with ⟨_, h⟩ | ⟨j, h, _⟩
  · rw [← h, drop_all]; simp [spl]
  · omega
theorem winv_last {s : ByteArray} {done : List (List UInt8)} {j : Nat} (h : WInv s done j s.size) : done ++ [seg s.data.toList j s.size] = wordsL s.data.toList := by
  rcases h.2 with ⟨h, _⟩ | ⟨j', h, hj, h2⟩
  · omega
  · obtain rfl : j = j' := by omega
    rw [← h2, drop_all]
    conv => rhs; unfold spl
    rw [if_neg (seg_ne hj (Nat.le_refl _))]

/-- the other way: the word that is being read may have no bytes yet -/
def VInv (s : ByteArray) (done : List (List UInt8)) (j k : Nat) : Prop :=
  done.length ≤ k ∧ j ≤ k ∧ done ++ spl (seg s.data.toList j k) (s.data.toList.drop k) = wordsL s.data.toList
theorem vinv_start (s : ByteArray) : VInv s [] 0 0 := ⟨Nat.le_refl _, Nat.le_refl _, by simp [seg, wordsL]⟩
theorem vinv_grow {s : ByteArray} {done : List (List UInt8)} {k j : Nat} (h : VInv s done j k) (hk : k < s.size) (hc : s[k] ≠ 32) : VInv s done j (k + 1) := by
  obtain ⟨hl, hj, h⟩ := h
  refine ⟨by omega, by omega, ?_⟩
  rw [← h, drop_cons hk, seg_succ hj hk]
  conv => rhs; unfold spl
  rw [if_neg hc]
/-- a word is put behind the others, unless it has no bytes -/
def addW (done : List (List UInt8)) (x : List UInt8) : List (List UInt8) := if x = [] then done else done ++ [x]
theorem addW_nil (done : List (List UInt8)) {x : List UInt8} (h : x = []) : addW done x = done := by simp [addW, h]
theorem addW_cons (done : List (List UInt8)) {x : List UInt8} (h : x ≠ []) : addW done x = done ++ [x] := by simp [addW, h]
theorem vinv_end {s : ByteArray} {done : List (List UInt8)} {k j : Nat} (h : VInv s done j k) (hk : k < s.size) (hc : s[k] = 32) : VInv s (addW done (seg s.data.toList j k)) (k + 1) (k + 1) := by
  obtain ⟨hl, hj, h⟩ := h
  refine ⟨?_, Nat.le_refl _, ?_⟩
  · unfold addW; split
    · omega
    · simp; omega
  · rw [← h, drop_cons hk, seg_self]
    conv => rhs; unfold spl
    rw [if_pos hc]
    unfold addW
    split
    · rfl
    · rw [List.append_assoc]; rfl
theorem vinv_last {s : ByteArray} {done : List (List UInt8)} {j : Nat} (h : VInv s done j s.size) : addW done (seg s.data.toList j s.size) = wordsL s.data.toList := by
  obtain ⟨hl, hj, h⟩ := h
  rw [← h, drop_all]
  unfold addW spl
  split <;> simp_all
theorem byte_ne {c : UInt8} (h : c ≠ 32) : ¬ (c.toNat : Int) = 32 := by
  intro e
  have e2 : c.toNat = 32 := by omega
  exact h (UInt8.toNat_inj.1 e2)
/-- WordsOf -/
def wordsOf (s : ByteArray) : List ByteArray := if validT s.data.toList = true then wordsB s else []
theorem wordsOf_ok {s : ByteArray} (h : validT s.data.toList = true) : wordsOf s = wordsB s := by simp [wordsOf, h]
theorem wordsOf_no {s : ByteArray} (h : validT s.data.toList = false) : wordsOf s = [] := by simp [wordsOf, h]
theorem wordsB_eq {s : ByteArray} {d : List (List UInt8)} (h : d = wordsL s.data.toList) : wordsB s = d.map bs := by rw [h]; rfl
theorem validT_allTo {s : ByteArray} (h : validT s.data.toList = true) : allTo s s.size := by
  unfold validT at h
  simp only [Bool.and_eq_true, List.all_eq_true] at h
  intro i hi _
  have : s[i] = s.data.toList[i]'(by rw [len_eq]; exact hi) := rfl
  rw [this]
  exact h.1 _ (List.getElem_mem _)
theorem wordsOf_len (s : ByteArray) : (wordsOf s).length ≤ 120 := by
  by_cases hv : validT s.data.toList = true
  · rw [wordsOf_ok hv]
    unfold wordsB
    rw [List.length_map]
    have h1 := wordsL_len s.data.toList
    have h2 := validT_size hv
    rw [len_eq] at h1
    omega
  · rw [wordsOf_no (by simpa using hv)]; simp
theorem empty_of {s : ByteArray} (h : s.size = 0) : s.toList.isEmpty = true := by
  rw [Lib.toList_data, List.isEmpty_iff_length_eq_zero, len_eq]; exact h
theorem nonempty_of {s : ByteArray} (h : ¬ s.size = 0) : s.toList.isEmpty = false := by
  rw [Bool.eq_false_iff]; intro e
  rw [Lib.toList_data, List.isEmpty_iff_length_eq_zero, len_eq] at e; exact h e
end Go.Proofs.YtgfpbnafehpopaaDoor.pl
