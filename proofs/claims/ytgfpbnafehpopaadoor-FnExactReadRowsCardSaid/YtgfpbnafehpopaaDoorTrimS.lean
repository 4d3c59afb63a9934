/- Contract: the model's trim. -/
import Derived.Test.YtgfpbnafehpopaaDoorPlainCu
import Derived.Test.YtgfpbnafehpopaaDoorEq
namespace Go.Proofs.YtgfpbnafehpopaaDoor
open Go.RowKit
set_option maxRecDepth 100000
set_option linter.unusedVariables false

set_option maxHeartbeats 2000000 in
theorem strim_any (s : ByteArray) (w : World) (hs : s.size ≤ 1000000) :
    Calls Tryd.prog 54 #[.string s] w fun e w' => e = .returned (.string (pl.trimB s)) ∧ w = w' := by
  go_enter Tryd.func54, Tryd.ntmps54
  go_wp2
  go_loop [0] (fun v => ∃ (k : Nat) (t : ByteArray), v = .string t ∧ k ≤ s.size ∧ Hid (t = pl.bs (s.data.toList.drop k)) ∧ Hid (pl.leadL (s.data.toList.drop k) + k = pl.ld s)) (fun v => match v with | .string t => t.size | _ => 0)
  case atStart => exact ⟨0, s, rfl, Nat.zero_le _, Lib.hid (pl.drop_zero s).symm, Lib.hid rfl⟩
  case round =>
    obtain ⟨k, t, rfl, hk, ht, hc⟩ := hrel
    have htz : t.size = s.size - k := by rw [ht.out]; exact pl.drop_size
    by_cases hks : k < s.size
    · have h0 : 0 < t.size := by omega
      have hg : t[0] = s[k] := pl.drop_bs_get ht.out h0 hks
      by_cases e : s[k] = 32
      · have h1 : (t[0].toNat : Int) = 32 := by rw [hg, e]; rfl
        have hx := Lib.hid (pl.drop_tail ht.out)
        have hn := Lib.hid (pl.ld_next hc.out hks e)
        clear e hg htz
        go_wp2
        go_round
        case rel => exact ⟨k + 1, _, rfl, by omega, hx, hn⟩
        case measure =>
          have h2 : (t.extract 1 t.size).size = s.size - (k + 1) := by rw [hx.out]; exact pl.drop_size
          have h3 : t.size = s.size - k := by rw [ht.out]; exact pl.drop_size
          simp only [h2]; omega
      · have h1 : ¬ (t[0].toNat : Int) = 32 := by rw [hg]; exact pl.byte_ne e
        have hn := Lib.hid (pl.ld_at hc.out hks e)
        have HFIN := Lib.hid (pl.drop_list ht.out hn.out)
        clear e hg
        go_wp2
        go_loop [0] (fun v => ∃ (j : Nat) (t2 : ByteArray), v = .string t2 ∧ j ≤ t.size ∧ Hid (t2 = pl.bs (t.data.toList.take j)) ∧ Hid (pl.rcut t.data.toList t.size = pl.rcut t.data.toList j)) (fun v => match v with | .string t2 => t2.size | _ => 0)
        case atStart => exact ⟨t.size, t, rfl, Nat.le_refl _, Lib.hid (pl.take_full t).symm, Lib.hid rfl⟩
        case round =>
          obtain ⟨j, t2, rfl, hj, ht2, hc2⟩ := hrel
          have htz2 : t2.size = j := by rw [ht2.out]; exact pl.take_size hj
          cases j with
          | zero =>
            have hz2 : t2.size ≤ 0 := by omega
            have hn2 := Lib.hid (pl.rtrim_eq (k := 0) (hc2.out.trans rfl))
            clear htz2
            go_wp2
            go_ret
            exact ⟨by rw [← HFIN.out, hn2.out, ← ht2.out]; rfl, rfl⟩
          | succ i =>
            have hi2 : i < t.size := by omega
            by_cases e2 : t[i] = 32
            · have hjt : i < t2.size := by omega
              have h12 : (t2[i].toNat : Int) = 32 := by
                have := pl.take_bs_get hj (show i < i + 1 by omega) (by rw [← ht2.out]; exact hjt)
                rw [pl.get_cast ht2.out hjt, this, e2]; rfl
              have hx2 := Lib.hid (show t2.extract 0 i = pl.bs (t.data.toList.take i) by rw [ht2.out]; exact pl.take_take)
              have hn2 := Lib.hid (hc2.out.trans (pl.rcut_sp (by rw [pl.get_some hi2, e2])))
              clear e2
              go_wp2
              go_round
              case rel => exact ⟨i, _, rfl, by omega, hx2, hn2⟩
              case measure =>
                have : (t2.extract 0 i).size = i := by rw [hx2.out]; exact pl.take_size (by omega)
                simp only [this]; omega
            · have hjt : i < t2.size := by omega
              have h12 : ¬ (t2[i].toNat : Int) = 32 := by
                have := pl.take_bs_get hj (show i < i + 1 by omega) (by rw [← ht2.out]; exact hjt)
                rw [pl.get_cast ht2.out hjt, this]
                exact pl.byte_ne e2
              have hn2 := Lib.hid (pl.rtrim_eq (k := i + 1) (hc2.out.trans (pl.rcut_no (by rw [pl.get_some hi2]; intro h; exact e2 (Option.some.inj h)))))
              clear e2
              go_wp2
              go_ret
              exact ⟨by rw [← HFIN.out, hn2.out, ← ht2.out]; rfl, rfl⟩
    · have hn : Hid (pl.ld s = k) := Lib.hid (by
        have e : k = s.size := by omega
        have h := hc.out
        rw [e] at h ⊢; exact pl.ld_end h)
      have hz : t.size ≤ 0 := by omega
      have HFIN := Lib.hid (pl.drop_list ht.out hn.out)
      go_wp2
      go_loop [0] (fun v => ∃ (j : Nat) (t2 : ByteArray), v = .string t2 ∧ j ≤ t.size ∧ Hid (t2 = pl.bs (t.data.toList.take j)) ∧ Hid (pl.rcut t.data.toList t.size = pl.rcut t.data.toList j)) (fun v => match v with | .string t2 => t2.size | _ => 0)
      case atStart => exact ⟨t.size, t, rfl, Nat.le_refl _, Lib.hid (pl.take_full t).symm, Lib.hid rfl⟩
      case round =>
        obtain ⟨j, t2, rfl, hj, ht2, hc2⟩ := hrel
        have htz2 : t2.size = j := by rw [ht2.out]; exact pl.take_size hj
        cases j with
        | zero =>
          have hz2 : t2.size ≤ 0 := by omega
          have hn2 := Lib.hid (pl.rtrim_eq (k := 0) (hc2.out.trans rfl))
          clear htz2
          go_wp2
          go_ret
          exact ⟨by rw [← HFIN.out, hn2.out, ← ht2.out]; rfl, rfl⟩
        | succ i => exact absurd hj (by omega)
end Go.Proofs.YtgfpbnafehpopaaDoor
