/- Contracts: strings.TrimRight and strings.TrimLeft of spaces, walked over the library's own text. -/
import Derived.Test.YtpfheanpbbfpdaaDoorPkA
import Derived.Test.YtpfheanpbbfpdaaDoorRows
import Derived.WalkKit
import Derived.WalkSpells
import Derived.WalkLawsBesides
import Derived.Lib.Hide
import Derived.Outline
namespace Go.Proofs.YtpfheanpbbfpdaaDoor
open Go.RowKit
set_option maxRecDepth 100000

set_option maxHeartbeats 1000000 in
theorem trimRightByte_sp (s : ByteArray) (w : World) (hs : s.size ≤ 1000000) :
    Calls Tryd.prog 133 #[.string s, .int .u8 32] w fun e w' => e = .returned (.string (pl.bs (pl.rtrim s.data.toList))) ∧ w = w' := by
  have HF := Lib.hid (pl.take_full s)
  go_enter Tryd.func133, Tryd.ntmps133
  go_wp2
  go_loop [0] (fun v => ∃ (k : Nat) (t : ByteArray), v = .string t ∧ k ≤ s.size ∧ Hid (t = pl.bs (s.data.toList.take k)) ∧ Hid (pl.rcut s.data.toList s.size = pl.rcut s.data.toList k)) (fun v => match v with | .string t => t.size | _ => 0)
  case atStart => exact ⟨s.size, s, rfl, Nat.le_refl _, Lib.hid HF.out.symm, Lib.hid rfl⟩
  case round =>
    obtain ⟨k, t, rfl, hk, ht, hc⟩ := hrel
    have htz : t.size = k := by rw [ht.out]; exact pl.take_size hk
    cases k with
    | zero =>
      have hz : t.size ≤ 0 := by omega
      have hn := Lib.hid (pl.rtrim_eq (k := 0) (hc.out.trans rfl))
      clear htz
      go_wp2
      go_ret
      exact ⟨by rw [hn.out, ← ht.out]; rfl, rfl⟩
    | succ j =>
      have hj : j < s.size := by omega
      by_cases e : s[j] = 32
      · have hjt : j < t.size := by omega
        have h1 : (t[j].toNat : Int) = 32 := by
          have := pl.take_bs_get hk (show j < j + 1 by omega) (by rw [← ht.out]; exact hjt)
          rw [pl.get_cast ht.out hjt, this, e]; rfl
        have hx := Lib.hid (show t.extract 0 j = pl.bs (s.data.toList.take j) by rw [ht.out]; exact pl.take_take)
        have hn := Lib.hid (hc.out.trans (pl.rcut_sp (by rw [pl.get_some hj, e])))
        clear e
        go_wp2
        go_round
        case rel => exact ⟨j, _, rfl, by omega, hx, hn⟩
        case measure =>
          have : (t.extract 0 j).size = j := by rw [hx.out]; exact pl.take_size (by omega)
          simp only [this]; omega
      · have hjt : j < t.size := by omega
        have h1 : ¬ (t[j].toNat : Int) = 32 := by
          have := pl.take_bs_get hk (show j < j + 1 by omega) (by rw [← ht.out]; exact hjt)
          rw [pl.get_cast ht.out hjt, this]
          exact pl.byte_ne e
        have hn := Lib.hid (pl.rtrim_eq (k := j + 1) (hc.out.trans (pl.rcut_no (by rw [pl.get_some hj]; intro h; exact e (Option.some.inj h)))))
        clear e
        go_wp2
        go_ret
        exact ⟨by rw [hn.out, ← ht.out]; rfl, rfl⟩

end Go.Proofs.YtpfheanpbbfpdaaDoor
