/- Contracts: the laws' hasByte, without, ragged. -/
import Derived.Test.YtgfpbnafehpopaaPlainL
import Derived.Test.YtgfpbnafehpopaaPlainT
import Derived.Test.YtgfpbnafehpopaaValid
namespace Go.Proofs.Ytgfpbnafehpopaa.pl
def noC (s : ByteArray) (c : UInt8) (k : Nat) : Prop := ∀ i (h : i < s.size), i < k → ¬ s[i] = c
theorem noC_succ {s : ByteArray} {c : UInt8} {k : Nat} (h : noC s c k) (hk : k < s.size) (e : ¬ s[k] = c) : noC s c (k + 1) := by
  intro i hi hlt
  by_cases e2 : i = k
  · subst e2; exact e
  · exact h i hi (by omega)
def hasC (s : ByteArray) (c : UInt8) : Bool := decide (c ∈ s.data.toList)
theorem noC_all {s : ByteArray} {c : UInt8} (h : noC s c s.size) : hasC s c = false := by
  apply decide_eq_false
  intro hm
  obtain ⟨i, hi, e⟩ := List.getElem_of_mem hm
  have hi' : i < s.size := by rw [← len_eq]; exact hi
  exact h i hi' hi' e
theorem yesC {s : ByteArray} {c : UInt8} {k : Nat} (hk : k < s.size) (e : s[k] = c) : hasC s c = true := by
  apply decide_eq_true
  have : s[k] = s.data.toList[k]'(by rw [len_eq]; exact hk) := rfl
  rw [← e, this]
  exact List.getElem_mem _
theorem byte_eq {c d : UInt8} (h : c = d) : (c.toNat : Int) = (d.toNat : Int) := by rw [h]
theorem byte_neq {c d : UInt8} (h : ¬ c = d) : ¬ (c.toNat : Int) = (d.toNat : Int) := fun e => h (UInt8.toNat_inj.1 (by omega))
def woTo (s : ByteArray) (c : UInt8) (k : Nat) : List UInt8 := without (s.data.toList.take k) c
theorem woTo_zero (s : ByteArray) (c : UInt8) : woTo s c 0 = [] := rfl
theorem woTo_all (s : ByteArray) (c : UInt8) : woTo s c s.size = without s.data.toList c := by
  unfold woTo; rw [List.take_of_length_le (by rw [len_eq]; exact Nat.le_refl _)]
theorem woTo_skip {s : ByteArray} {c : UInt8} {k : Nat} (hk : k < s.size) (e : s[k] = c) : woTo s c (k + 1) = woTo s c k := by
  unfold woTo without
  rw [take_snoc hk, List.filter_append]; simp [e]
theorem woTo_keep {s : ByteArray} {c : UInt8} {k : Nat} (hk : k < s.size) (e : ¬ s[k] = c) : woTo s c (k + 1) = woTo s c k ++ [s[k]] := by
  unfold woTo without
  rw [take_snoc hk, List.filter_append]; simp [e]
theorem woTo_len (s : ByteArray) (c : UInt8) (k : Nat) : (woTo s c k).length ≤ k := by
  unfold woTo without
  have h1 := List.length_filter_le (fun d => !(d == c)) (s.data.toList.take k)
  have h2 := List.length_take_le k s.data.toList
  omega
end Go.Proofs.Ytgfpbnafehpopaa.pl
namespace Go.Proofs.Ytgfpbnafehpopaa
open Go.RowKit
set_option maxRecDepth 100000

end Go.Proofs.Ytgfpbnafehpopaa
