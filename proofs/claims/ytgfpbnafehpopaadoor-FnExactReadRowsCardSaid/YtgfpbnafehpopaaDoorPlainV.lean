/- Plain mathematics: lists of words. -/
import Derived.Test.YtgfpbnafehpopaaDoorPlainW
import Derived.Test.YtgfpbnafehpopaaDoorStrs
namespace Go.Proofs.YtgfpbnafehpopaaDoor.pl

def wb (c : UInt8) : Bool := decide (33 ≤ c.toNat) && decide (c.toNat ≤ 126)
def wordOK (x : ByteArray) : Bool := inR x.size 1 12 && x.data.toList.all wb
def vWords (l : List ByteArray) : Bool := l.all wordOK && decide (l.length ≤ 9)

theorem wb_int (c : UInt8) : inR (c.toNat : Int) 33 126 = wb c := by
  unfold inR wb
  congr 1 <;> (apply decide_eq_decide.2; omega)
/-- the first k bytes are bytes of a word -/
def wbTo (s : ByteArray) (k : Nat) : Prop := ∀ i (h : i < s.size), i < k → wb s[i] = true
theorem wbTo_zero (s : ByteArray) : wbTo s 0 := fun _ _ h => absurd h (by omega)
theorem wbTo_succ {s : ByteArray} {k : Nat} (h : wbTo s k) (hk : k < s.size) (hc : wb s[k] = true) : wbTo s (k + 1) := by
  intro i hi hlt
  by_cases e : i = k
  · subst e; exact hc
  · exact h i hi (by omega)
theorem all_wb {s : ByteArray} (h : wbTo s s.size) : s.data.toList.all wb = true := by
  rw [List.all_eq_true]
  intro c hc
  obtain ⟨i, hi, rfl⟩ := List.getElem_of_mem hc
  exact h i (by simpa using hi) (by simpa using hi)
theorem not_wb {s : ByteArray} {k : Nat} (hk : k < s.size) (hc : wb s[k] = false) : s.data.toList.all wb = false := by
  rw [List.all_eq_false]
  exact ⟨s[k], by
    have : s[k] = s.data.toList[k]'(by simpa using hk) := rfl
    rw [this]; exact List.getElem_mem _, by simp [hc]⟩
theorem wordOK_yes {s : ByteArray} (h1 : 1 ≤ s.size) (h2 : s.size ≤ 12) (h : wbTo s s.size) : wordOK s = true := by
  unfold wordOK; rw [inR_true (by omega) (by omega), all_wb h]; rfl
theorem wordOK_bad {s : ByteArray} {k : Nat} (hk : k < s.size) (hc : wb s[k] = false) : wordOK s = false := by
  unfold wordOK; rw [not_wb hk hc]; simp
theorem wordOK_size {s : ByteArray} (h : (s.size : Int) < 1 ∨ 12 < (s.size : Int)) : wordOK s = false := by
  unfold wordOK; rw [inR_false h]; rfl
theorem wordOK_parts {s : ByteArray} (h : wordOK s = true) : 1 ≤ s.size ∧ s.size ≤ 12 ∧ s.data.toList.all wb = true := by
  unfold wordOK inR at h
  simp only [Bool.and_eq_true, decide_eq_true_eq] at h
  exact ⟨by omega, by omega, h.2⟩
theorem wordOK_of {s : ByteArray} (h1 : 1 ≤ s.size) (h2 : s.size ≤ 12) (h : s.data.toList.all wb = true) : wordOK s = true := by
  unfold wordOK; rw [inR_true (by omega) (by omega), h]; rfl
theorem wb_plain {c : UInt8} (h : wb c = true) : plainB c = true ∧ c ≠ 32 := by
  unfold wb at h; unfold plainB
  simp only [Bool.and_eq_true, decide_eq_true_eq] at h ⊢
  refine ⟨by omega, fun e => ?_⟩
  subst e
  exact absurd h.1 (by decide)
theorem plain_wb {c : UInt8} (h : plainB c = true) (h2 : c ≠ 32) : wb c = true := by
  unfold wb; unfold plainB at h
  simp only [Bool.and_eq_true, decide_eq_true_eq] at h ⊢
  have : c.toNat ≠ 32 := fun e => h2 (UInt8.toNat_inj.1 e)
  omega
/-- a word is a text without spaces, of 1 to 12 bytes -/
theorem wordOK_text {s : ByteArray} (h1 : 1 ≤ s.size) (h2 : s.size ≤ 12) : wordOK s = (validT s.data.toList && decide (32 ∉ s.data.toList)) := by
  have e : wordOK s = s.data.toList.all wb := by
    unfold wordOK; rw [inR_true (by omega) (by omega)]; rfl
  rw [e]
  by_cases hw : s.data.toList.all wb = true
  · rw [hw]
    rw [List.all_eq_true] at hw
    have a1 : validT s.data.toList = true := by
      unfold validT
      rw [Bool.and_eq_true, List.all_eq_true]
      exact ⟨fun c hc => (wb_plain (hw c hc)).1, decide_eq_true (by rw [len_eq]; omega)⟩
    have a2 : 32 ∉ s.data.toList := fun hm => (wb_plain (hw _ hm)).2 rfl
    rw [a1, decide_eq_true a2]; rfl
  · have hw' : s.data.toList.all wb = false := by simpa using hw
    rw [hw']
    by_cases a1 : validT s.data.toList = true
    · have a2 : ¬ (32 ∉ s.data.toList) := by
        intro hm
        rw [List.all_eq_false] at hw'
        obtain ⟨c, hc, hb⟩ := hw'
        unfold validT at a1
        rw [Bool.and_eq_true, List.all_eq_true] at a1
        exact hb (plain_wb (a1.1 c hc) (fun e => hm (e ▸ hc)))
      rw [decide_eq_false a2]; simp
    · have a1' : validT s.data.toList = false := by simpa using a1
      rw [a1']; rfl
/-- the first k of them are words -/
def wordsTo (l : List ByteArray) (k : Nat) : Prop := ∀ i, i < k → wordOK (nth l i) = true
theorem wordsTo_zero (l : List ByteArray) : wordsTo l 0 := fun _ h => absurd h (by omega)
theorem wordsTo_succ {l : List ByteArray} {k : Nat} (h : wordsTo l k) (hc : wordOK (nth l k) = true) : wordsTo l (k + 1) := by
  intro i hlt
  by_cases e : i = k
  · subst e; exact hc
  · exact h i (by omega)
theorem vWords_all {l : List ByteArray} (h : wordsTo l l.length) : vWords l = decide (l.length ≤ 9) := by
  unfold vWords
  have : l.all wordOK = true := by
    rw [List.all_eq_true]
    intro x hx
    obtain ⟨i, hi, rfl⟩ := List.getElem_of_mem hx
    rw [← nth_eq hi]; exact h i hi
  rw [this]; rfl
theorem vWords_bad {l : List ByteArray} {k : Nat} (hk : k < l.length) (hc : wordOK (nth l k) = false) : vWords l = false := by
  unfold vWords
  have : l.all wordOK = false := by
    rw [List.all_eq_false]
    exact ⟨l[k], List.getElem_mem _, by rw [← nth_eq hk]; simp [hc]⟩
  rw [this]; rfl
theorem vWords_long {l : List ByteArray} (h : 9 < l.length) : vWords l = false := by
  unfold vWords
  rw [decide_eq_false (p := l.length ≤ 9) (by omega)]; simp
theorem vWords_parts {l : List ByteArray} (h : vWords l = true) : l.length ≤ 9 ∧ wordsTo l l.length := by
  unfold vWords at h
  rw [Bool.and_eq_true, List.all_eq_true, decide_eq_true_eq] at h
  refine ⟨h.2, fun i hi => ?_⟩
  rw [nth_eq hi]; exact h.1 _ (List.getElem_mem _)
end Go.Proofs.YtgfpbnafehpopaaDoor.pl
