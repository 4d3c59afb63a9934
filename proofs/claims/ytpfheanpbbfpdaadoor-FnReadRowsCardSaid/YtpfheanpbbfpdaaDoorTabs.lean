/- Contracts: spaces, texts with tabs, expanded tabs, of both sides. -/
import Derived.Test.YtpfheanpbbfpdaaDoorValid
import Derived.Test.YtpfheanpbbfpdaaDoorBuilder
import Derived.Test.YtpfheanpbbfpdaaDoorPkA
namespace Go.Proofs.YtpfheanpbbfpdaaDoor
open Go.RowKit
set_option maxRecDepth 100000

set_option maxHeartbeats 400000 in
theorem sspaces_any (a : Int) (w : World) (ha : a ≤ 100000) :
    Calls Tryd.prog 128 #[.int .i64 a] w fun e w' => e = .returned (.string (pl.spB a.toNat)) ∧ w = w' := by
  go_enter Tryd.func128, Tryd.ntmps128
  go_wp2
  go_loop [0, 3] (fun n o => ∃ k : Nat, k ≤ a.toNat ∧ n = .int .i64 (a - k) ∧ o = .string (pl.spB k)) (fun n _ => (intOf n).toNat)
  case atStart => exact ⟨0, Nat.zero_le _, by simp, rfl⟩
  case round =>
    obtain ⟨k, hk, rfl, rfl⟩ := hrel
    have hsz : (pl.spB k).size ≤ 100000 := by rw [pl.spB_size]; omega
    by_cases h : 0 < a - k
    · have hn := Lib.hid (pl.spB_succ k)
      go_wp2
      go_round
      case rel => exact ⟨k + 1, by omega, by go_num, by rw [hn.out]⟩
      case measure => simp [intOf]; omega
    · have hn := Lib.hid (show a.toNat = k by omega)
      go_wp2
      go_ret
      exact ⟨by rw [hn.out]; rfl, rfl⟩

theorem sspaces_at (a : Int) (n : Nat) (ha : a = n) (w : World) (hn : n ≤ 100000) :
    Calls Tryd.prog 128 #[.int .i64 a] w fun e w' => e = .returned (.string (pl.spB n)) ∧ w = w' := by
  subst ha
  exact sspaces_any n w (by omega)

theorem ispaces_at (a : Int) (n : Nat) (ha : a = n) (w : World) (hn : n ≤ 100000) :
    Calls Tryd.prog 139 #[.int .i64 a] w fun e w' => e = .returned (.string (pl.spB n)) ∧ Below w.heap.size w w' := by
  subst ha
  have hr := Lib.hid (pl.rep_sp n)
  have h1 : (ByteArray.mk #[32]).size * n ≤ 140737488355328 := by show 1 * n ≤ _; omega
  go_enter Tryd.func139, Tryd.ntmps139
  go_wp2_with fail
  refine (Tryd.strings_Repeat _ n _ (by omega) h1).mono ?_
  rintro e w1 ⟨rfl, hb⟩
  go_wp2_with fail
  go_ret
  exact ⟨by rw [hr.out]; rfl, hb⟩

end Go.Proofs.YtpfheanpbbfpdaaDoor
