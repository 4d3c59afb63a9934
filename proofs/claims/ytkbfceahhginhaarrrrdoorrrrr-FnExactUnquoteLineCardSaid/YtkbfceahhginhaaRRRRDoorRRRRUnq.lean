/- Contracts: strings.TrimLeft of signs, and UnquoteLine of both sides. -/
import Derived.Test.YtkbfceahhginhaaRRRRDoorRRRRPlainUq
import Derived.Test.YtkbfceahhginhaaRRRRDoorRRRRValid
import Derived.Test.YtkbfceahhginhaaRRRRDoorRRRRShelfP
import Derived.Test.YtkbfceahhginhaaRRRRDoorRRRREq
namespace Go.Proofs.YtkbfceahhginhaaRRRRDoorRRRR
open Go.RowKit
set_option maxRecDepth 100000

set_option maxHeartbeats 1000000 in
theorem trimLeftByte_gt (s : ByteArray) (w : World) :
    Calls Tryd.prog 53 #[.string s, .int .u8 62] w fun e w' => e = .returned (.string (pl.gtrim s)) ∧ w = w' := by
  go_enter Tryd.func53, Tryd.ntmps53
  go_wp2
  go_loop [0] (fun v => ∃ (k : Nat) (t : ByteArray), v = .string t ∧ k ≤ s.size ∧ Hid (t = pl.bs (s.data.toList.drop k)) ∧ Hid (pl.gtL (s.data.toList.drop k) + k = pl.gt s)) (fun v => match v with | .string t => t.size | _ => 0)
  case atStart => exact ⟨0, s, rfl, Nat.zero_le _, Lib.hid (pl.drop_zero s).symm, Lib.hid rfl⟩
  case round =>
    obtain ⟨k, t, rfl, hk, ht, hc⟩ := hrel
    have htz : t.size = s.size - k := by rw [ht.out]; exact pl.drop_size
    by_cases hks : k < s.size
    · have h0 : 0 < t.size := by omega
      have hg : t[0] = s[k] := pl.drop_bs_get ht.out h0 hks
      by_cases e : s[k] = 62
      · have h1 : (t[0].toNat : Int) = 62 := by rw [hg, e]; rfl
        have hx := Lib.hid (pl.drop_tail ht.out)
        have hn := Lib.hid (pl.gt_next hc.out hks e)
        clear e hg htz
        go_wp2
        go_round
        case rel => exact ⟨k + 1, _, rfl, by omega, hx, hn⟩
        case measure =>
          have h2 : (t.extract 1 t.size).size = s.size - (k + 1) := by rw [hx.out]; exact pl.drop_size
          have h3 : t.size = s.size - k := by rw [ht.out]; exact pl.drop_size
          simp only [h2]; omega
      · have h1 : ¬ (t[0].toNat : Int) = 62 := by rw [hg]; exact pl.byte_ne62 e
        have hn := Lib.hid (pl.gt_at hc.out hks e)
        clear e hg htz
        go_wp2
        go_ret
        exact ⟨by rw [pl.gtrim, hn.out, ← ht.out]; rfl, rfl⟩
    · have hn : Hid (pl.gt s = k) := Lib.hid (by
        have e : k = s.size := by omega
        have h := hc.out
        rw [e] at h ⊢; exact pl.gt_end h)
      have hz : t.size ≤ 0 := by omega
      clear htz
      go_wp2
      go_ret
      exact ⟨by rw [pl.gtrim, hn.out, ← ht.out]; rfl, rfl⟩

theorem trimLeft_gt (s : ByteArray) (w : World) :
    Calls Tryd.prog 37 #[.string s, .string ⟨#[62]⟩] w fun e w' => e = .returned (.string (pl.gtrim s)) ∧ w = w' := by
  by_cases h0 : s.size = 0
  · have h0' : s.toList.isEmpty = true := pl.empty_of h0
    have hn := Lib.hid (show pl.gtrim s = s from pl.gtrim_zero h0)
    clear h0
    go_enter Tryd.func37, Tryd.ntmps37
    go_wp2_with fail
    go_ret
    exact ⟨by rw [hn.out]; rfl, rfl⟩
  · have h0' : s.toList.isEmpty = false := pl.nonempty_of h0
    clear h0
    go_enter Tryd.func37, Tryd.ntmps37
    go_wp2_with fail
    refine (trimLeftByte_gt s _).mono ?_
    rintro e w' ⟨rfl, rfl⟩
    go_wp2_with fail
    go_ret
    exact ⟨rfl, rfl⟩

set_option maxHeartbeats 1000000 in
theorem sunquote_any (s : ByteArray) (w : World) (hs : s.size ≤ 1000000) :
    Calls Tryd.prog 49 #[.string s] w fun e w' => e = .returned (.tuple #[.int .i64 (pl.gt s), .string (pl.unqB s)]) ∧ Below w.heap.size w w' := by
  go_enter Tryd.func49, Tryd.ntmps49
  go_wp2
  go_loop [4] (fun i => ∃ k : Nat, k ≤ s.size ∧ i = .int .i64 k ∧ Hid (pl.gtL (s.data.toList.drop k) + k = pl.gt s)) (fun i => s.size - (intOf i).toNat)
  case atStart => exact ⟨0, Nat.zero_le _, rfl, Lib.hid (pl.gt_zero s)⟩
  case round =>
    obtain ⟨k, hk, rfl, hc⟩ := hrel
    by_cases hlt : k < s.size
    · by_cases e : s[k] = 62
      · have h1 : (s[k].toNat : Int) = 62 := by rw [e]; rfl
        have hn := Lib.hid (pl.gt_next hc.out hlt e)
        clear e
        go_wp2
        go_round
        case rel => exact ⟨k + 1, by omega, by go_num, hn⟩
        case measure => simp [intOf]; omega
      · have h1 : ¬ (s[k].toNat : Int) = 62 := pl.byte_ne62 e
        have hn := Lib.hid (pl.gt_at hc.out hlt e)
        by_cases h0 : k = 0
        · subst h0
          have hu := Lib.hid (pl.unq_none hn.out)
          clear e
          go_wp2
          go_quiet (fail)
          go_wp2
          go_ret2
          exact ⟨by rw [hn.out, hu.out]; rfl, below_drewN⟩
        · have h0i : (0 : Int) < (k : Int) := by omega
          by_cases e3 : s[k] = 32
          · have h2 : (s[k].toNat : Int) = 32 := by rw [e3]; rfl
            have hu : Hid (s.extract (k + 1) s.size = pl.unqB s) := Lib.hid (by
              unfold pl.unqB
              rw [show pl.uk s = k + 1 from by
                have := pl.uk_sp (s := s) (by rw [hn.out]; omega) (by rw [hn.out]; exact hlt) (by simp only [hn.out]; exact e3)
                rw [this, hn.out]]
              exact pl.ex_drop62)
            have hwr : IntKind.i64.wrap ((k : Int) + 1) = (k : Int) + 1 := by rw [IntKind.wrap_i64]; omega
            clear e e3 h1
            go_wp2
            go_quiet (fail)
            go_wp2
            go_ret2
            exact ⟨by rw [hn.out, ← hu.out]; rfl, below_drewN⟩
          · have h2 : ¬ (s[k].toNat : Int) = 32 := pl.byte_ne e3
            have hu : Hid (s.extract k s.size = pl.unqB s) := Lib.hid (by
              unfold pl.unqB
              rw [show pl.uk s = k from by
                have := pl.uk_no (s := s) (by rw [hn.out]; omega) (by rw [hn.out]; exact hlt) (by simp only [hn.out]; exact e3)
                rw [this, hn.out]]
              exact pl.ex_drop62)
            clear e e3
            go_wp2
            go_quiet (fail)
            go_wp2
            go_ret2
            exact ⟨by rw [hn.out, ← hu.out]; rfl, below_drewN⟩
    · have hn : Hid (pl.gt s = k) := Lib.hid (by
        have e : k = s.size := by omega
        have h := hc.out
        rw [e] at h ⊢; exact pl.gt_end h)
      have hu : Hid (s.extract k s.size = pl.unqB s) := Lib.hid (by
        unfold pl.unqB
        rw [show pl.uk s = k from by rw [pl.uk_end (by rw [hn.out]; omega), hn.out]]
        exact pl.ex_drop62)
      by_cases h0i : (0 : Int) < (k : Int)
      · go_wp2
        go_quiet (fail)
        go_wp2
        go_ret2
        exact ⟨by rw [hn.out, ← hu.out]; rfl, below_drewN⟩
      · go_wp2
        go_quiet (fail)
        go_wp2
        go_ret2
        exact ⟨by rw [hn.out, ← hu.out]; rfl, below_drewN⟩

theorem sUnquoteLine_any (s : ByteArray) (w : World) (hs : s.size ≤ maxLen) :
    Calls Tryd.prog 20 #[.string s] w fun e w' => e = .returned (.tuple #[.int .i64 (pl.gtR s), .string (pl.unqR s)]) ∧ Below w.heap.size w w' := by
  by_cases hv : pl.validT s.data.toList = true
  · have hsz := pl.validT_size hv
    have h1 := Lib.hid (pl.gtR_yes hv)
    have h2 := Lib.hid (pl.unqR_yes hv)
    go_enter Tryd.func20, Tryd.ntmps20
    go_wp2_with fail
    refine (svalidText_any _ _ hs).mono ?_
    rintro e w' ⟨rfl, rfl⟩
    rw [hv]
    go_wp2_with fail
    refine (sunquote_any _ _ (by omega)).mono ?_
    rintro e w' ⟨rfl, hbq⟩
    go_wp2_with fail
    go_ret2
    exact ⟨by rw [h1.out, h2.out]; rfl, hbq⟩
  · have hv' : pl.validT s.data.toList = false := by simpa using hv
    have h1 := Lib.hid (pl.gtR_no hv')
    have h2 := Lib.hid (pl.unqR_no hv')
    clear hv
    go_enter Tryd.func20, Tryd.ntmps20
    go_wp2_with fail
    refine (svalidText_any _ _ hs).mono ?_
    rintro e w' ⟨rfl, rfl⟩
    rw [hv']
    go_wp2_with fail
    go_ret2
    exact ⟨by rw [h1.out, h2.out]; rfl, Below.refl _ _⟩

theorem iUnquoteLine_any (s : ByteArray) (w : World) (hs : s.size ≤ maxLen) :
    Calls Tryd.prog 19 #[.string s] w fun e w' => e = .returned (.tuple #[.int .i64 (pl.gtR s), .string (pl.unqR s)]) ∧ Below w.heap.size w w' := by
  by_cases hv : pl.validT s.data.toList = true
  · have hsz := pl.validT_size hv
    have h1 := Lib.hid (pl.gtR_yes hv)
    have h2 := Lib.hid (pl.unqR_yes hv)
    obtain ⟨t, HT⟩ : ∃ t, Hid (pl.gtrim s = t) := ⟨_, Lib.hid rfl⟩
    obtain ⟨n, HN⟩ : ∃ n, Hid (pl.gt s = n) := ⟨_, Lib.hid rfl⟩
    have hle : n ≤ s.size := by rw [← HN.out]; exact pl.gt_le s
    have htz : t.size = s.size - n := by rw [← HT.out, pl.gtrim_size, HN.out]
    have hsub : Hid ((s.size : Int) - (t.size : Int) = (n : Int)) := Lib.hid (by omega)
    have htz2 : t.size ≤ s.size := by omega
    by_cases h0 : n = 0
    · have hn0 : ¬ (0 : Int) < (s.size : Int) - (t.size : Int) := by omega
      have hts : Hid (t = pl.unqB s) := Lib.hid (by
        rw [pl.unq_none (by rw [HN.out]; exact h0), ← HT.out]
        unfold pl.gtrim; rw [HN.out, h0]; exact pl.drop_zero s)
      clear htz h0
      go_enter Tryd.func19, Tryd.ntmps19
      go_wp2_with fail
      refine (iValidText_any _ _ hs).mono ?_
      rintro e w1 ⟨rfl, hb1⟩
      rw [hv]
      go_wp2_with fail
      refine (trimLeft_gt s _).mono ?_
      rintro e w' ⟨rfl, rfl⟩
      rw [HT.out]
      go_wp2_with fail
      go_ret2
      exact ⟨by rw [h1.out, h2.out, ← hts.out, HN.out, ← hsub.out]; rfl, hb1⟩
    · have hn0 : (0 : Int) < (s.size : Int) - (t.size : Int) := by omega
      have hts : Hid ((⟨(Lib.trimPrefix t.data.toList [32]).toArray⟩ : ByteArray) = pl.unqB s) := Lib.hid (by
        rw [← HT.out]; exact pl.trimP_unq (by rw [HN.out]; omega))
      clear htz h0
      go_enter Tryd.func19, Tryd.ntmps19
      go_wp2_with fail
      refine (iValidText_any _ _ hs).mono ?_
      rintro e w1 ⟨rfl, hb1⟩
      rw [hv]
      go_wp2_with fail
      refine (trimLeft_gt s _).mono ?_
      rintro e w' ⟨rfl, rfl⟩
      rw [HT.out]
      go_wp2_with fail
      refine (Tryd.strings_TrimPrefix t ⟨#[32]⟩ _).mono ?_
      rintro e w' ⟨rfl, hw⟩
      rw [hw]
      go_wp2_with fail
      go_ret2
      exact ⟨by rw [h1.out, h2.out, ← hts.out, HN.out, ← hsub.out]; rfl, hb1⟩
  · have hv' : pl.validT s.data.toList = false := by simpa using hv
    have h1 := Lib.hid (pl.gtR_no hv')
    have h2 := Lib.hid (pl.unqR_no hv')
    clear hv
    go_enter Tryd.func19, Tryd.ntmps19
    go_wp2_with fail
    refine (iValidText_any _ _ hs).mono ?_
    rintro e w1 ⟨rfl, hb1⟩
    rw [hv']
    go_wp2_with fail
    go_ret2
    exact ⟨by rw [h1.out, h2.out]; rfl, hb1⟩
end Go.Proofs.YtkbfceahhginhaaRRRRDoorRRRR
