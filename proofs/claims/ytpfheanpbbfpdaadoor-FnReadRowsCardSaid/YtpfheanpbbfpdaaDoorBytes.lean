/- Contracts: the laws' hasByte, without, ragged. -/
import Derived.Test.YtpfheanpbbfpdaaDoorPkB
import Derived.Test.YtpfheanpbbfpdaaDoorPkA
import Derived.Test.YtpfheanpbbfpdaaDoorValid
namespace Go.Proofs.YtpfheanpbbfpdaaDoor.pl
def noC (s : ByteArray) (c : UInt8) (k : Nat) : Prop := ∀ i (h : i < s.size), i < k → ¬ s[i] = c
theorem noC_succ {s : ByteArray} {c : UInt8} {k : Nat} (h : noC s c k) (hk : k < s.size) (e : ¬ s[k] = c) : noC s c (k + 1) := by
  intro i hi hlt
  by_cases e2 : i = k
  · subst e2; exact e
  · exact h i hi (by omega)
def hasC (s : ByteArray) (c : UInt8) : Bool := decide (c ∈ s.data.toList)
theorem noC_all {s : ByteArray} {c : UInt8} (h : noC s c s.size) : hasC s c = false := by
  apply decide_eq_false
  intro hm
  obtain ⟨i, hi, e⟩ := List.getElem_of_mem hm
  have hi' : i < s.size := by rw [← len_eq]; exact hi
  exact h i hi' hi' e
theorem yesC {s : ByteArray} {c : UInt8} {k : Nat} (hk : k < s.size) (e : s[k] = c) : hasC s c = true := by
  apply decide_eq_true
  have : s[k] = s.data.toList[k]'(by rw [len_eq]; exact hk) := rfl
  rw [← e, this]
  exact List.getElem_mem _
theorem byte_eq {c d : UInt8} (h : c = d) : (c.toNat : Int) = (d.toNat : Int) := by rw [h]
theorem byte_neq {c d : UInt8} (h : ¬ c = d) : ¬ (c.toNat : Int) = (d.toNat : Int) := fun e => h (UInt8.toNat_inj.1 (by omega))
def woTo (s : ByteArray) (c : UInt8) (k : Nat) : List UInt8 := without (s.data.toList.take k) c
theorem woTo_zero (s : ByteArray) (c : UInt8) : woTo s c 0 = [] := rfl
theorem woTo_all (s : ByteArray) (c : UInt8) : woTo s c s.size = without s.data.toList c := by
  unfold woTo; rw [List.take_of_length_le (by rw [len_eq]; exact Nat.le_refl _)]
theorem woTo_skip {s : ByteArray} {c : UInt8} {k : Nat} (hk : k < s.size) (e : s[k] = c) : woTo s c (k + 1) = woTo s c k := by
  unfold woTo without
  rw [take_snoc hk, List.filter_append]; simp [e]
theorem woTo_keep {s : ByteArray} {c : UInt8} {k : Nat} (hk : k < s.size) (e : ¬ s[k] = c) : woTo s c (k + 1) = woTo s c k ++ [s[k]] := by
  unfold woTo without
  rw [take_snoc hk, List.filter_append]; simp [e]
theorem woTo_len (s : ByteArray) (c : UInt8) (k : Nat) : (woTo s c k).length ≤ k := by
  unfold woTo without
  have h1 := List.length_filter_le (fun d => !(d == c)) (s.data.toList.take k)
  have h2 := List.length_take_le k s.data.toList
  omega
end Go.Proofs.YtpfheanpbbfpdaaDoor.pl
namespace Go.Proofs.YtpfheanpbbfpdaaDoor
open Go.RowKit
set_option maxRecDepth 100000

set_option maxHeartbeats 400000 in
theorem hasByte_at (s : ByteArray) (a : Int) (c : UInt8) (ha : a = (c.toNat : Int)) (w : World) (hs : s.size ≤ 1000000) :
    Calls Tryd.prog 19 #[.string s, .int .u8 a] w fun e w' => e = .returned (.bool (pl.hasC s c)) ∧ w = w' := by
  subst ha
  go_enter Tryd.func19, Tryd.ntmps19
  go_wp2
  go_loop [5] (fun i => ∃ k : Nat, k ≤ s.size ∧ i = .int .i64 k ∧ Hid (pl.noC s c k)) (fun i => s.size - (intOf i).toNat)
  case atStart => exact ⟨0, Nat.zero_le _, rfl, fun _ _ h => absurd h (by omega)⟩
  case round =>
    obtain ⟨k, hk, rfl, hno⟩ := hrel
    by_cases hlt : k < s.size
    · by_cases e : s[k] = c
      · have h1 := pl.byte_eq e
        have hb := Lib.hid (pl.yesC hlt e)
        clear e
        go_wp2
        go_ret
        exact ⟨by rw [hb.out]; rfl, rfl⟩
      · have h1 := pl.byte_neq e
        have hn := Lib.hid (pl.noC_succ hno.out hlt e)
        clear e
        go_wp2
        go_round
        case rel => exact ⟨k + 1, by omega, by go_num, hn⟩
        case measure => simp [intOf]; omega
    · obtain rfl : k = s.size := by omega
      have hb := Lib.hid (pl.noC_all hno.out)
      go_wp2
      go_ret
      exact ⟨by rw [hb.out]; rfl, rfl⟩

theorem ragged_no (s : ByteArray) (w : World) (hs : s.size ≤ 1000000) (h : s.size = 0 ∨ ∃ (h0 : 0 < s.size), ¬ s[0] = 32 ∧ ¬ s[s.size - 1] = 32) :
    Calls Tryd.prog 18 #[.string s] w fun e w' => e = .returned (.bool false) ∧ w = w' := by
  rcases h with h | ⟨h0, h1, h2⟩
  · have h0' : s.toList.isEmpty = true := pl.empty_of h
    go_enter Tryd.func18, Tryd.ntmps18
    go_wp2
    go_ret
    exact ⟨rfl, rfl⟩
  · have h0' : s.toList.isEmpty = false := pl.nonempty_of (by omega)
    have e1 : ((s[0].toNat : Int) == 32) = false := beq_eq_false_iff_ne.2 (pl.byte_ne h1)
    have e2 : ((s[s.size - 1].toNat : Int) == 32) = false := beq_eq_false_iff_ne.2 (pl.byte_ne h2)
    have e3 : 0 ≤ (s.size : Int) - 1 ∧ (s.size : Int) - 1 < s.size := by omega
    clear h1 h2
    go_enter Tryd.func18, Tryd.ntmps18
    go_wp2
    go_ret
    exact ⟨rfl, rfl⟩
end Go.Proofs.YtpfheanpbbfpdaaDoor
