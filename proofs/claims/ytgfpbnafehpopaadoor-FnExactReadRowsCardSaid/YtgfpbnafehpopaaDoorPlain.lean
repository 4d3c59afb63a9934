/- Plain mathematics on lists of bytes: the functions that the package and its model compute, without any program. -/
import Derived.WalkKit
namespace Go.Proofs.YtgfpbnafehpopaaDoor.pl

def plainB (c : UInt8) : Bool := decide (32 ≤ c.toNat) && decide (c.toNat ≤ 126)
def validT (l : List UInt8) : Bool := l.all plainB && decide (l.length ≤ 120)
def inR (n lo hi : Int) : Bool := decide (lo ≤ n) && decide (n ≤ hi)

theorem inR_true {n lo hi : Int} (h1 : lo ≤ n) (h2 : n ≤ hi) : inR n lo hi = true := by simp [inR, h1, h2]
theorem inR_false {n lo hi : Int} (h : n < lo ∨ hi < n) : inR n lo hi = false := by
  unfold inR; rcases h with h | h
  · rw [decide_eq_false (by omega)]; rfl
  · rw [decide_eq_false (p := n ≤ hi) (by omega)]; simp
theorem inR_byte (c : UInt8) : inR (c.toNat : Int) 32 126 = plainB c := by
  unfold inR plainB
  congr 1 <;> (apply decide_eq_decide.2; omega)

theorem len_eq (s : ByteArray) : s.data.toList.length = s.size := by rw [Array.length_toList]; rfl

/-- all of the first k bytes are plain -/
def allTo (s : ByteArray) (k : Nat) : Prop := ∀ i (h : i < s.size), i < k → plainB s[i] = true
theorem allTo_zero (s : ByteArray) : allTo s 0 := fun _ _ h => absurd h (by omega)
theorem allTo_succ {s : ByteArray} {k : Nat} (h : allTo s k) (hk : k < s.size) (hc : plainB s[k] = true) : allTo s (k + 1) := by
  intro i hi hlt
  by_cases e : i = k
  · subst e; exact hc
  · exact h i hi (by omega)
theorem validT_all {s : ByteArray} (h : allTo s s.size) : validT s.data.toList = decide (s.size ≤ 120) := by
  unfold validT
  have : s.data.toList.all plainB = true := by
    rw [List.all_eq_true]
    intro c hc
    obtain ⟨i, hi, rfl⟩ := List.getElem_of_mem hc
    exact h i (by simpa using hi) (by simpa using hi)
  rw [this, len_eq]; rfl
theorem validT_bad {s : ByteArray} {k : Nat} (hk : k < s.size) (hc : plainB s[k] = false) : validT s.data.toList = false := by
  unfold validT
  have : s.data.toList.all plainB = false := by
    rw [List.all_eq_false]
    exact ⟨s[k], by
      have : s[k] = s.data.toList[k]'(by simpa using hk) := rfl
      rw [this]; exact List.getElem_mem _, by simp [hc]⟩
  rw [this]; rfl
theorem validT_long {s : ByteArray} (hk : 120 < s.size) : validT s.data.toList = false := by
  unfold validT
  have : ¬ s.data.toList.length ≤ 120 := by rw [len_eq]; omega
  rw [decide_eq_false this]; simp
theorem validT_size {s : ByteArray} (h : validT s.data.toList = true) : s.size ≤ 120 := by
  unfold validT at h
  simp only [Bool.and_eq_true, decide_eq_true_eq] at h
  rw [len_eq] at h; exact h.2
theorem plainB_lt {c : UInt8} (h : plainB c = true) : 32 ≤ c.toNat ∧ c.toNat ≤ 126 := by
  simpa [plainB] using h
theorem decode_plain {s : ByteArray} {k : Nat} (hk : k < s.size) (hp : plainB s[k] = true) : Utf8.decode s k = ((s[k]'hk).toNat, 1) :=
  decode_ascii s k hk (by have := plainB_lt hp; omega)
theorem decode_unplain {s : ByteArray} {k : Nat} (hk : k < s.size) (hp : plainB s[k] = false) : inR ((Utf8.decode s k).1 : Int) 32 126 = false := by
  by_cases h : (s[k]'hk).toNat < 128
  · rw [decode_ascii s k hk h, ← hp]
    exact inR_byte _
  · have := (decode_high s k hk (by omega)).1
    exact inR_false (.inr (by omega))
end Go.Proofs.YtgfpbnafehpopaaDoor.pl
