/- Contracts: inRange, isPlain, validText, ValidText of both sides. -/
import Derived.Test.YtadlelcckalcoaaRows
import Derived.Test.YtadlelcckalcoaaPkA
import Derived.WalkKit
import Derived.WalkSpells
import Derived.WalkLawsBesides
import Derived.Lib.Hide
import Derived.Lib.OthersKept
import Derived.Outline
namespace Go.Proofs.Ytadlelcckalcoaa
open Go.RowKit
set_option maxRecDepth 100000

theorem ret_b {a b : Bool} (h : a = b) : Ending.returned (.bool a) = .returned (.bool b) := by rw [h]

set_option maxHeartbeats 400000 in
theorem inRange_any (n lo hi : Int) (w : World) :
    Calls Try.prog 50 #[.int .i64 n, .int .i64 lo, .int .i64 hi] w fun e w' => e = .returned (.bool (pl.inR n lo hi)) ∧ w = w' := by
  by_cases h1 : lo ≤ n
  · go_enter Try.func50, Try.ntmps50
    go_wp2
    go_ret
    exact ⟨by simp [pl.inR, h1], rfl⟩
  · have h1' : n < lo := by omega
    go_enter Try.func50, Try.ntmps50
    go_wp2
    go_ret
    exact ⟨ret_b (pl.inR_false (.inl h1')).symm, rfl⟩

set_option maxHeartbeats 400000 in
theorem isPlain_any (r : Int) (w : World) :
    Calls Try.prog 81 #[.int .i32 r] w fun e w' => e = .returned (.bool (pl.inR r 32 126)) ∧ w = w' := by
  by_cases h1 : 32 ≤ r
  · go_enter Try.func81, Try.ntmps81
    go_wp2
    go_ret
    exact ⟨by simp [pl.inR, h1], rfl⟩
  · have h1' : r < 32 := by omega
    go_enter Try.func81, Try.ntmps81
    go_wp2
    go_ret
    exact ⟨ret_b (pl.inR_false (.inl h1')).symm, rfl⟩

set_option maxHeartbeats 400000 in
theorem svalidText_any (s : ByteArray) (w : World) (hs : s.size ≤ maxLen) :
    Calls Try.prog 63 #[.string s] w fun e w' => e = .returned (.bool (pl.validT s.data.toList)) ∧ w = w' := by
  unfold maxLen at hs
  go_enter Try.func63, Try.ntmps63
  go_wp2
  go_loop [3] (fun i => ∃ k : Nat, k ≤ s.size ∧ i = .int .i64 k ∧ pl.allTo s k) (fun i => s.size - (intOf i).toNat)
  case atStart => exact ⟨0, Nat.zero_le _, rfl, pl.allTo_zero s⟩
  case round =>
    obtain ⟨k, hk, rfl, hall⟩ := hrel
    by_cases hlt : k < s.size
    · have h255 : (s[k].toNat : Int) ≤ 255 := by have := s[k].toNat_lt; omega
      by_cases hp : pl.plainB s[k] = true
      · have hin : pl.inR (s[k].toNat : Int) 32 126 = true := (pl.inR_byte _).trans hp
        have hnext := Lib.hid (pl.allTo_succ hall hlt hp)
        clear hall hp
        go_wp2_with (go_at_call 50; refine (inRange_any _ _ _ _).mono ?_; rintro e w' ⟨rfl, rfl⟩)
        go_round
        case rel => exact ⟨k + 1, by omega, by go_num, hnext.out⟩
        case measure => simp [intOf]; omega
      · have hp' : pl.plainB s[k] = false := by simpa using hp
        have hin : pl.inR (s[k].toNat : Int) 32 126 = false := (pl.inR_byte _).trans hp'
        have hb := Lib.hid (pl.validT_bad hlt hp')
        clear hall hp hp'
        go_wp2_with (go_at_call 50; refine (inRange_any _ _ _ _).mono ?_; rintro e w' ⟨rfl, rfl⟩)
        go_ret
        exact ⟨ret_b hb.out.symm, rfl⟩
    · obtain rfl : k = s.size := by omega
      have hb := Lib.hid (pl.validT_all hall)
      clear hall
      go_wp2
      go_ret
      exact ⟨ret_b (by rw [hb.out]; exact decide_eq_decide.2 (by omega)), rfl⟩

set_option maxHeartbeats 400000 in
theorem iValidText_any (s : ByteArray) (w : World) (hs : s.size ≤ maxLen) :
    Calls Try.prog 54 #[.string s] w fun e w' => e = .returned (.bool (pl.validT s.data.toList)) ∧ Below w.heap.size w w' := by
  unfold maxLen at hs
  by_cases hlong : 120 < s.size
  · have hb := Lib.hid (pl.validT_long hlong)
    go_enter Try.func54, Try.ntmps54
    go_wp2
    go_ret
    exact ⟨ret_b hb.out.symm, Below.refl _ _⟩
  · have hlong' : s.size ≤ 120 := by omega
    clear hlong
    go_enter Try.func54, Try.ntmps54
    go_wp2
    go_loopw [2] (fun _ w' => ∃ pos : Nat, w' = w.iter s pos ∧ pos ≤ s.size ∧ pl.allTo s pos) (fun _ w' => s.size - w'.iterPos w.heap.size)
    case atStart => exact ⟨0, rfl, Nat.zero_le _, pl.allTo_zero s⟩
    case round =>
      obtain ⟨k, rfl, hk, hall⟩ := hrel
      by_cases hlt : k < s.size
      · have hnx : ∀ ty, (Instr.next (.pointer (some ⟨w.heap.size, 0, none⟩)) true ty).run Try.prog (w.iter s k) = _ := fun ty => run_next_any w s k ty hlt
        by_cases hp : pl.plainB s[k] = true
        · rw [pl.decode_plain hlt hp] at hnx
          have hin : pl.inR (s[k].toNat : Int) 32 126 = true := (pl.inR_byte _).trans hp
          have hnext := Lib.hid (pl.allTo_succ hall hlt hp)
          clear hall hp
          go_wp2_with (go_at_call 81; refine (isPlain_any _ _).mono ?_; rintro e w' ⟨rfl, rfl⟩)
          go_roundw
          case rel => exact ⟨k + 1, rfl, by omega, hnext.out⟩
          case measure => simp; omega
        · have hp' : pl.plainB s[k] = false := by simpa using hp
          have hin : pl.inR ((Utf8.decode s k).1 : Int) 32 126 = false := pl.decode_unplain hlt hp'
          have hb := Lib.hid (pl.validT_bad hlt hp')
          clear hall hp hp'
          go_wp2_with (go_at_call 81; refine (isPlain_any _ _).mono ?_; rintro e w' ⟨rfl, rfl⟩)
          go_ret
          exact ⟨ret_b hb.out.symm, (Below.refl _ _).alloc (Nat.le_refl _) _⟩
      · obtain rfl : k = s.size := by omega
        have hnx : ∀ ty, (Instr.next (.pointer (some ⟨w.heap.size, 0, none⟩)) true ty).run Try.prog (w.iter s s.size) = _ := fun ty => run_next_end w s s.size ty hlt
        have hb := Lib.hid (pl.validT_all hall)
        clear hall
        go_wp2
        go_ret
        exact ⟨ret_b (by rw [hb.out]; exact (decide_eq_true hlong').symm), (Below.refl _ _).alloc (Nat.le_refl _) _⟩

end Go.Proofs.Ytadlelcckalcoaa
