/- Contracts: the laws' hasByte, without, ragged. -/
import Derived.Test.YtckfpneooknifaaPkB
import Derived.Test.YtckfpneooknifaaPkA
import Derived.Test.YtckfpneooknifaaValid
namespace Go.Proofs.Ytckfpneooknifaa.pl
def noC (s : ByteArray) (c : UInt8) (k : Nat) : Prop := ∀ i (h : i < s.size), i < k → ¬ s[i] = c
theorem noC_succ {s : ByteArray} {c : UInt8} {k : Nat} (h : noC s c k) (hk : k < s.size) (e : ¬ s[k] = c) : noC s c (k + 1) := by
  intro i hi hlt
  by_cases e2 : i = k
  · subst e2; exact e
  · exact h i hi (by omega)
def hasC (s : ByteArray) (c : UInt8) : Bool := decide (c ∈ s.data.toList)
theorem noC_all {s : ByteArray} {c : UInt8} (h : noC s c s.size) : hasC s c = false := by
  apply decide_eq_false
  intro hm
  obtain ⟨i, hi, e⟩ := List.getElem_of_mem hm
  have hi' : i < s.size := by rw [← len_eq]; exact hi
  exact h i hi' hi' e
theorem yesC {s : ByteArray} {c : UInt8} {k : Nat} (hk : k < s.size) (e : s[k] = c) : hasC s c = true := by
  apply decide_eq_true
  have : s[k] = s.data.toList[k]'(by rw [len_eq]; exact hk) := rfl
  rw [← e, this]
  exact List.getElem_mem _
theorem byte_eq {c d : UInt8} (h : c = d) : (c.toNat : Int) = (d.toNat : Int) := by rw [h]
theorem byte_neq {c d : UInt8} (h : ¬ c = d) : ¬ (c.toNat : Int) = (d.toNat : Int) := fun e => h (UInt8.toNat_inj.1 (by omega))
def woTo (s : ByteArray) (c : UInt8) (k : Nat) : List UInt8 := without (s.data.toList.take k) c
theorem woTo_zero (s : ByteArray) (c : UInt8) : woTo s c 0 = [] := rfl
theorem woTo_all (s : ByteArray) (c : UInt8) : woTo s c s.size = without s.data.toList c := by
  unfold woTo; rw [List.take_of_length_le (by rw [len_eq]; exact Nat.le_refl _)]
theorem woTo_skip {s : ByteArray} {c : UInt8} {k : Nat} (hk : k < s.size) (e : s[k] = c) : woTo s c (k + 1) = woTo s c k := by
  unfold woTo without
  rw [take_snoc hk, List.filter_append]; simp [e]
theorem woTo_keep {s : ByteArray} {c : UInt8} {k : Nat} (hk : k < s.size) (e : ¬ s[k] = c) : woTo s c (k + 1) = woTo s c k ++ [s[k]] := by
  unfold woTo without
  rw [take_snoc hk, List.filter_append]; simp [e]
theorem woTo_len (s : ByteArray) (c : UInt8) (k : Nat) : (woTo s c k).length ≤ k := by
  unfold woTo without
  have h1 := List.length_filter_le (fun d => !(d == c)) (s.data.toList.take k)
  have h2 := List.length_take_le k s.data.toList
  omega
end Go.Proofs.Ytckfpneooknifaa.pl
namespace Go.Proofs.Ytckfpneooknifaa
open Go.RowKit
set_option maxRecDepth 100000

set_option maxHeartbeats 400000 in
theorem without_at (s : ByteArray) (a : Int) (c : UInt8) (ha : a = (c.toNat : Int)) (w : World) (hs : s.size ≤ 1000000) :
    Calls Try.prog 39 #[.string s, .int .u8 a] w fun e w' => e = .returned (.string (pl.bs (pl.without s.data.toList c))) ∧ w = w' := by
  subst ha
  go_enter Try.func39, Try.ntmps39
  go_wp2
  go_loop [5, 6] (fun out i => ∃ (k : Nat) (o : List UInt8), k ≤ s.size ∧ i = .int .i64 k ∧ out = .string (pl.bs o) ∧ Hid (o = pl.woTo s c k)) (fun _ i => s.size - (intOf i).toNat)
  case atStart => exact ⟨0, [], Nat.zero_le _, rfl, rfl, Lib.hid rfl⟩
  case round =>
    obtain ⟨k, o, hk, rfl, rfl, ho⟩ := hrel
    have hol : (pl.bs o).size ≤ 1000000 := by rw [pl.bs_size, ho.out]; have := pl.woTo_len s c k; omega
    by_cases hlt : k < s.size
    · by_cases e : s[k] = c
      · have h1 := pl.byte_eq e
        have hn := Lib.hid ((pl.woTo_skip hlt e).trans ho.out.symm)
        clear e
        go_wp2
        go_round
        case rel => exact ⟨k + 1, o, by omega, by go_num, rfl, Lib.hid hn.out.symm⟩
        case measure => simp [intOf]; omega
      · have h1 := pl.byte_neq e
        have hn := Lib.hid ((pl.woTo_keep hlt e).trans (by rw [← ho.out]))
        have hex : (s.extract k (k + 1)).size ≤ 1 := by rw [pl.ex_bs, pl.bs_size, pl.seg_len (by omega)]; omega
        have hes := Lib.hid (pl.bs_one o hlt)
        clear e
        go_wp2
        go_round
        case rel => exact ⟨k + 1, _, by omega, by go_num, congrArg Value.string hes.out, Lib.hid hn.out.symm⟩
        case measure => simp [intOf]; omega
    · obtain rfl : k = s.size := by omega
      have hn := Lib.hid (ho.out.trans (pl.woTo_all s c))
      go_wp2
      go_ret
      exact ⟨by rw [← hn.out]; rfl, rfl⟩

end Go.Proofs.Ytckfpneooknifaa
