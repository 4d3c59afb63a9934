/- Contract: strings.TrimLeft of spaces, walked over the library's own text. -/
import Derived.Test.YtpfheanpbbfpdaaDoorPkB
import Derived.Test.YtpfheanpbbfpdaaDoorRows
import Derived.WalkKit
import Derived.WalkSpells
import Derived.WalkLawsBesides
import Derived.Lib.Hide
import Derived.Outline
namespace Go.Proofs.YtpfheanpbbfpdaaDoor
open Go.RowKit
set_option maxRecDepth 100000

set_option maxHeartbeats 1000000 in
theorem trimLeftByte_sp (s : ByteArray) (w : World) :
    Calls Tryd.prog 132 #[.string s, .int .u8 32] w fun e w' => e = .returned (.string (pl.ltrim s)) ∧ w = w' := by
  go_enter Tryd.func132, Tryd.ntmps132
  go_wp2
  go_loop [0] (fun v => ∃ (k : Nat) (t : ByteArray), v = .string t ∧ k ≤ s.size ∧ Hid (t = pl.bs (s.data.toList.drop k)) ∧ Hid (pl.leadL (s.data.toList.drop k) + k = pl.ld s)) (fun v => match v with | .string t => t.size | _ => 0)
  case atStart => exact ⟨0, s, rfl, Nat.zero_le _, Lib.hid (pl.drop_zero s).symm, Lib.hid rfl⟩
  case round =>
    obtain ⟨k, t, rfl, hk, ht, hc⟩ := hrel
    have htz : t.size = s.size - k := by rw [ht.out]; exact pl.drop_size
    by_cases hks : k < s.size
    · have h0 : 0 < t.size := by omega
      have hg : t[0] = s[k] := pl.drop_bs_get ht.out h0 hks
      by_cases e : s[k] = 32
      · have h1 : (t[0].toNat : Int) = 32 := by rw [hg, e]; rfl
        have hx := Lib.hid (pl.drop_tail ht.out)
        have hn := Lib.hid (pl.ld_next hc.out hks e)
        clear e hg htz
        go_wp2
        go_round
        case rel => exact ⟨k + 1, _, rfl, by omega, hx, hn⟩
        case measure =>
          have h2 : (t.extract 1 t.size).size = s.size - (k + 1) := by rw [hx.out]; exact pl.drop_size
          have h3 : t.size = s.size - k := by rw [ht.out]; exact pl.drop_size
          simp only [h2]; omega
      · have h1 : ¬ (t[0].toNat : Int) = 32 := by rw [hg]; exact pl.byte_ne e
        have hn := Lib.hid (pl.ld_at hc.out hks e)
        clear e hg htz
        go_wp2
        go_ret
        exact ⟨by rw [pl.ltrim, hn.out, ← ht.out]; rfl, rfl⟩
    · have hn : Hid (pl.ld s = k) := Lib.hid (by
        have e : k = s.size := by omega
        have h := hc.out
        rw [e] at h ⊢; exact pl.ld_end h)
      have hz : t.size ≤ 0 := by omega
      clear htz
      go_wp2
      go_ret
      exact ⟨by rw [pl.ltrim, hn.out, ← ht.out]; rfl, rfl⟩

end Go.Proofs.YtpfheanpbbfpdaaDoor
