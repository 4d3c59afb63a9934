/- Contracts: spaces, texts with tabs, expanded tabs, of both sides. -/
import Derived.Test.YtcghlhjlfppllaaDoorValid
import Derived.Test.YtcghlhjlfppllaaDoorBuilder
import Derived.Test.YtcghlhjlfppllaaDoorPlainT
namespace Go.Proofs.YtcghlhjlfppllaaDoor
open Go.RowKit
set_option maxRecDepth 100000

set_option maxHeartbeats 400000 in
theorem sspaces_any (a : Int) (w : World) (ha : a ≤ 100000) :
    Calls Tryd.prog 58 #[.int .i64 a] w fun e w' => e = .returned (.string (pl.spB a.toNat)) ∧ w = w' := by
  go_enter Tryd.func58, Tryd.ntmps58
  go_wp2
  go_loop [0, 3] (fun n o => ∃ k : Nat, k ≤ a.toNat ∧ n = .int .i64 (a - k) ∧ o = .string (pl.spB k)) (fun n _ => (intOf n).toNat)
  case atStart => exact ⟨0, Nat.zero_le _, by simp, rfl⟩
  case round =>
    obtain ⟨k, hk, rfl, rfl⟩ := hrel
    have hsz : (pl.spB k).size ≤ 100000 := by rw [pl.spB_size]; omega
    by_cases h : 0 < a - k
    · have hn := Lib.hid (pl.spB_succ k)
      go_wp2
      go_round
      case rel => exact ⟨k + 1, by omega, by go_num, by rw [hn.out]⟩
      case measure => simp [intOf]; omega
    · have hn := Lib.hid (show a.toNat = k by omega)
      go_wp2
      go_ret
      exact ⟨by rw [hn.out]; rfl, rfl⟩

theorem sspaces_at (a : Int) (n : Nat) (ha : a = n) (w : World) (hn : n ≤ 100000) :
    Calls Tryd.prog 58 #[.int .i64 a] w fun e w' => e = .returned (.string (pl.spB n)) ∧ w = w' := by
  subst ha
  exact sspaces_any n w (by omega)

theorem ispaces_at (a : Int) (n : Nat) (ha : a = n) (w : World) (hn : n ≤ 100000) :
    Calls Tryd.prog 43 #[.int .i64 a] w fun e w' => e = .returned (.string (pl.spB n)) ∧ Below w.heap.size w w' := by
  subst ha
  have hr := Lib.hid (pl.rep_sp n)
  have h1 : (ByteArray.mk #[32]).size * n ≤ 140737488355328 := by show 1 * n ≤ _; omega
  go_enter Tryd.func43, Tryd.ntmps43
  go_wp2_with fail
  refine (Tryd.strings_Repeat _ n _ (by omega) h1).mono ?_
  rintro e w1 ⟨rfl, hb⟩
  go_wp2_with fail
  go_ret
  exact ⟨by rw [hr.out]; rfl, hb⟩

set_option maxHeartbeats 1000000 in
theorem isTabbed_any (s : ByteArray) (w : World) (hs : s.size ≤ maxLen) :
    Calls Tryd.prog 42 #[.string s] w fun e w' => e = .returned (.bool (pl.tabT s.data.toList)) ∧ Below w.heap.size w w' := by
  unfold maxLen at hs
  by_cases hlong : 120 < s.size
  · have hb := Lib.hid (pl.tabT_long hlong)
    go_enter Tryd.func42, Tryd.ntmps42
    go_wp2
    go_ret
    exact ⟨ret_b hb.out.symm, Below.refl _ _⟩
  · have hlong' : s.size ≤ 120 := by omega
    clear hlong
    go_enter Tryd.func42, Tryd.ntmps42
    go_wp2
    go_loopw [2] (fun _ w' => ∃ pos : Nat, w' = w.iter s pos ∧ pos ≤ s.size ∧ pl.allQ s pos) (fun _ w' => s.size - w'.iterPos w.heap.size)
    case atStart => exact ⟨0, rfl, Nat.zero_le _, pl.allQ_zero s⟩
    case round =>
      obtain ⟨k, rfl, hk, hall⟩ := hrel
      by_cases hlt : k < s.size
      · have hnx : ∀ ty, (Instr.next (.pointer (some ⟨w.heap.size, 0, none⟩)) true ty).run Tryd.prog (w.iter s k) = _ := fun ty => run_next_any w s k ty hlt
        rcases pl.tabB_cases s[k] with h9 | ⟨h9, _, hp, ht⟩ | ⟨h9, hp, ht⟩
        · rw [pl.decode_tabs hlt (pl.tabB_nine h9)] at hnx
          have hnext := Lib.hid (pl.allQ_succ hall hlt (pl.tabB_nine h9))
          have h9' : (s[k].toNat : Int) = 9 := by rw [h9]; rfl
          clear hall h9
          go_wp2_with (go_at_call 63; refine (isPlain_any _ _).mono ?_; rintro e w' ⟨rfl, rfl⟩)
          go_roundw
          case rel => exact ⟨k + 1, rfl, by omega, hnext.out⟩
          case measure => simp; omega
        · rw [pl.decode_tabs hlt ht] at hnx
          have hin : pl.inR (s[k].toNat : Int) 32 126 = true := (pl.inR_byte _).trans hp
          have hnext := Lib.hid (pl.allQ_succ hall hlt ht)
          clear hall hp ht
          go_wp2_with (go_at_call 63; refine (isPlain_any _ _).mono ?_; rintro e w' ⟨rfl, rfl⟩)
          go_roundw
          case rel => exact ⟨k + 1, rfl, by omega, hnext.out⟩
          case measure => simp; omega
        · have hin : pl.inR ((Utf8.decode s k).1 : Int) 32 126 = false := pl.decode_unplain hlt hp
          have hd9 := pl.decode_ne9 hlt h9
          have hb := Lib.hid (pl.tabT_bad hlt ht)
          clear hall hp ht h9
          go_wp2_with (go_at_call 63; refine (isPlain_any _ _).mono ?_; rintro e w' ⟨rfl, rfl⟩)
          go_ret
          exact ⟨ret_b hb.out.symm, (Below.refl _ _).alloc (Nat.le_refl _) _⟩
      · obtain rfl : k = s.size := by omega
        have hnx : ∀ ty, (Instr.next (.pointer (some ⟨w.heap.size, 0, none⟩)) true ty).run Tryd.prog (w.iter s s.size) = _ := fun ty => run_next_end w s s.size ty hlt
        have hb := Lib.hid (pl.tabT_all hall)
        clear hall
        go_wp2
        go_ret
        exact ⟨ret_b (by rw [hb.out]; exact (decide_eq_true hlong').symm), (Below.refl _ _).alloc (Nat.le_refl _) _⟩
end Go.Proofs.YtcghlhjlfppllaaDoor
