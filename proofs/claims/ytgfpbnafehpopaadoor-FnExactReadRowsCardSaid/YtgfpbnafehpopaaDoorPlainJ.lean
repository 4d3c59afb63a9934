/- Plain mathematics: texts joined. -/
import Derived.Test.YtgfpbnafehpopaaDoorStrs
import Derived.Test.YtgfpbnafehpopaaDoorPlainW
import Derived.Lib.Join
namespace Go.Proofs.YtgfpbnafehpopaaDoor.pl

def toL (l : List ByteArray) : List (List UInt8) := l.map (·.data.toList)
def joinB (l : List ByteArray) (mid : ByteArray) : ByteArray := bs (Lib.join (toL l) mid.data.toList)
/-- the first k ones joined -/
def jn (l : List ByteArray) (mid : ByteArray) (k : Nat) : ByteArray := joinB (l.take k) mid
theorem jn_zero (l : List ByteArray) (mid : ByteArray) : jn l mid 0 = bs [] := by simp [jn, joinB, toL, Lib.join_nil]
theorem jn_all (l : List ByteArray) (mid : ByteArray) : jn l mid l.length = joinB l mid := by simp [jn]
theorem bs_append (a b : List UInt8) : bs (a ++ b) = bs a ++ bs b := (ByteArray.mk_append_mk a b).symm
theorem jn_one {l : List ByteArray} (mid : ByteArray) (h : 0 < l.length) : jn l mid 1 = nth l 0 := by
  cases l with
  | nil => simp at h
  | cons x r => simp only [jn, joinB, toL, List.take_succ_cons, List.take_zero, List.map_cons, List.map_nil, Lib.join_one]; exact bs_self x
theorem jn_succ {l : List ByteArray} (mid : ByteArray) {k : Nat} (h0 : 0 < k) (h : k < l.length) : jn l mid (k + 1) = jn l mid k ++ mid ++ nth l k := by
  cases l with
  | nil => simp at h
  | cons x r =>
    obtain ⟨j, rfl⟩ : ∃ j, k = j + 1 := ⟨k - 1, by omega⟩
    have hj : j < r.length := by simpa using h
    have e : (toL r)[j]? = some (nth (x :: r) (j + 1)).data.toList := by
      rw [nth_eq h]
      simp [toL, hj]
    have hmap : ∀ i, toL (r.take i) = (toL r).take i := fun i => by simp [toL, List.map_take]
    unfold jn joinB
    rw [List.take_succ_cons, List.take_succ_cons, show toL (x :: r.take (j + 1)) = x.data.toList :: toL (r.take (j + 1)) from rfl, show toL (x :: r.take j) = x.data.toList :: toL (r.take j) from rfl,
      Lib.join_cons, Lib.join_cons, hmap, hmap, Lib.joinTail_take_succ _ _ _ _ e]
    rw [← List.append_assoc, ← List.append_assoc, bs_append, bs_append, bs_self, bs_self]
theorem nil_app (x : ByteArray) : bs [] ++ x = x := by
  rw [← bs_self x, ← bs_append]; rfl
theorem jn_step_le (l : List ByteArray) (mid : ByteArray) (k : Nat) : (jn l mid k).size ≤ (jn l mid (k + 1)).size := by
  by_cases h : k < l.length
  · by_cases h0 : 0 < k
    · rw [jn_succ mid h0 h, ByteArray.size_append, ByteArray.size_append]; omega
    · obtain rfl : k = 0 := by omega
      rw [jn_zero]; simp [bs_size]
  · have e1 : l.take k = l := List.take_of_length_le (by omega)
    have e2 : l.take (k + 1) = l := List.take_of_length_le (by omega)
    unfold jn; rw [e1, e2]; exact Nat.le_refl _
theorem jn_le (l : List ByteArray) (mid : ByteArray) : ∀ d k, (jn l mid k).size ≤ (jn l mid (k + d)).size
  | 0, _ => Nat.le_refl _
  | d + 1, k => Nat.le_trans (jn_le l mid d k) (jn_step_le l mid (k + d))
theorem jn_le_all {l : List ByteArray} (mid : ByteArray) {k : Nat} (h : k ≤ l.length) : (jn l mid k).size ≤ (joinB l mid).size := by
  have := jn_le l mid (l.length - k) k
  rw [show k + (l.length - k) = l.length from by omega, jn_all] at this
  exact this
end Go.Proofs.YtgfpbnafehpopaaDoor.pl
