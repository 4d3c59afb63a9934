/- Contracts: validChanges of both sides. -/
import Derived.Test.YtckfpneooknifaaPlainCh
import Derived.Test.YtckfpneooknifaaValid
import Derived.Deep.RegionWith
namespace Go.Proofs.Ytckfpneooknifaa
open Go.RowKit
set_option maxRecDepth 100000
set_option linter.unusedVariables false

set_option maxHeartbeats 2000000 in
theorem ivalidChanges_any (cs : List pl.Ch) (v : Value) (w : World) (hr : RCh w v cs) (hsz : ∀ i, i < cs.length → (pl.nthH cs i).2.size ≤ maxLen) :
    Calls Try.prog 68 #[v] w fun e w' => e = .returned (.bool (pl.vCh cs)) ∧ Below w.heap.size w w' := by
  have HR := Lib.hid hr
  have HSZ := Lib.hid hsz
  obtain ⟨a0, c0, rfl⟩ := hr.slice
  obtain ⟨n, HN⟩ : ∃ n, Hid (n = cs.length) := ⟨_, Lib.hid rfl⟩
  rw [← HN.out] at HR ⊢
  clear hr hsz
  by_cases hbig : 40 < n
  · have hb := Lib.hid (pl.vCh_long (cs := cs) (by rw [← HN.out]; exact hbig))
    go_enter Try.func68, Try.ntmps68
    go_wp2_with fail
    go_ret
    exact ⟨ret_b hb.out.symm, Below.refl _ _⟩
  · have hn40 : n ≤ 40 := by omega
    go_enter Try.func68, Try.ntmps68
    go_wp2_with fail
    go_loopw [10] (fun iv wr => ∃ k : Nat, k ≤ n ∧ iv = .int .i64 k ∧ Hid (pl.chTo cs k) ∧ Hid (Below w.heap.size w wr)) (fun iv _ => n - (intOf iv).toNat)
    case atStart => exact ⟨0, Nat.zero_le _, rfl, Lib.hid (pl.chTo_zero cs), Lib.hid (Below.refl _ _)⟩
    case round =>
      obtain ⟨k, hk, rfl, HC, HB⟩ := hrel
      by_cases hlt : k < n
      · obtain ⟨b, o, rfl, hbw, c1, c2⟩ := HR.out.at HN.out HB.out hlt
        have hlc : k < cs.length := by rw [← HN.out]; exact hlt
        have hz := HSZ.out k hlc
        obtain ⟨kd, HKD⟩ : ∃ kd, Hid ((pl.nthH cs k).1 = kd) := ⟨_, Lib.hid rfl⟩
        obtain ⟨ln, HLN⟩ : ∃ ln, Hid ((pl.nthH cs k).2 = ln) := ⟨_, Lib.hid rfl⟩
        have HOK : Hid (pl.chOK (pl.nthH cs k) = (pl.inR kd 0 2 && pl.validT ln.data.toList)) := Lib.hid (by rw [← HKD.out, ← HLN.out]; rfl)
        have HBAD : ∀ (_ : (pl.inR kd 0 2 && pl.validT ln.data.toList) = false), Hid (pl.vCh cs = false) := fun h => Lib.hid (pl.vCh_bad hlc (by rw [HOK.out]; exact h))
        rw [HKD.out] at c1
        rw [HLN.out] at c2 hz
        have HBA := Lib.hid (HB.out.alloc HB.out.size (.cells #[.int .i64 kd, .string ln] 79))
        clear hlc
        by_cases h1 : kd < 0
        · have hb := HBAD (by rw [pl.inR_false (.inl h1)]; rfl)
          clear HBAD
          go_wp2_with fail
          go_ret
          exact ⟨ret_b hb.out.symm, HBA.out⟩
        · by_cases h2 : 2 < kd
          · have hb := HBAD (by rw [pl.inR_false (.inr h2)]; rfl)
            clear HBAD
            go_wp2_with fail
            go_ret
            exact ⟨ret_b hb.out.symm, HBA.out⟩
          · have hin : Hid (pl.inR kd 0 2 = true) := Lib.hid (pl.inR_true (by omega) (by omega))
            cases hv : pl.validT ln.data.toList with
            | false =>
              have hb := HBAD (by rw [hv, Bool.and_false])
              have HV := Lib.hid hv
              clear HBAD hv
              go_wp2_with fail
              refine (iValidText_any ln _ hz).mono ?_
              rintro e w2 ⟨rfl, hb2⟩
              rw [HV.out]
              have HB2 := Lib.hid (HBA.out.trans (hb2.mono HBA.out.size))
              clear hb2
              go_wp2_with fail
              go_ret
              exact ⟨ret_b hb.out.symm, HB2.out⟩
            | true =>
              have HC2 := Lib.hid (pl.chTo_succ HC.out (by rw [HOK.out, hin.out, hv]; rfl))
              have HV := Lib.hid hv
              clear HBAD hv
              go_wp2_with fail
              refine (iValidText_any ln _ hz).mono ?_
              rintro e w2 ⟨rfl, hb2⟩
              rw [HV.out]
              have HB2 := Lib.hid (HBA.out.trans (hb2.mono HBA.out.size))
              clear hb2
              go_wp2_with fail
              go_roundw
              case rel => exact ⟨k + 1, by omega, by go_num, HC2, HB2⟩
              case measure => simp [intOf]; omega
      · obtain rfl : k = n := by omega
        have hb := Lib.hid (pl.vCh_all (cs := cs) (by rw [← HN.out]; exact HC.out))
        go_wp2_with fail
        go_ret
        exact ⟨ret_b (by rw [hb.out, ← HN.out]; exact (decide_eq_true hn40).symm), HB.out⟩

set_option maxHeartbeats 2000000 in
theorem svalidChanges_any (cs : List pl.Ch) (v : Value) (w : World) (hr : RCh w v cs) (hlen : cs.length ≤ maxLen) (hsz : ∀ i, i < cs.length → (pl.nthH cs i).2.size ≤ maxLen) :
    Calls Try.prog 69 #[v] w fun e w' => e = .returned (.bool (pl.vCh cs)) ∧ w = w' := by
  unfold maxLen at hlen
  have HR := Lib.hid hr
  have HSZ := Lib.hid hsz
  obtain ⟨a0, c0, rfl⟩ := hr.slice
  obtain ⟨n, HN⟩ : ∃ n, Hid (n = cs.length) := ⟨_, Lib.hid rfl⟩
  rw [← HN.out] at HR hlen ⊢
  clear hr hsz
  go_enter Try.func69, Try.ntmps69
  go_wp2_with fail
  go_loop [3] (fun iv => ∃ k : Nat, k ≤ n ∧ iv = .int .i64 k ∧ Hid (pl.chTo cs k)) (fun iv => n - (intOf iv).toNat)
  case atStart => exact ⟨0, Nat.zero_le _, rfl, Lib.hid (pl.chTo_zero cs)⟩
  case round =>
    obtain ⟨k, hk, rfl, HC⟩ := hrel
    by_cases hlt : k < n
    · obtain ⟨b, o, rfl, hbw, c1, c2⟩ := HR.out.at HN.out (Below.refl _ _) hlt
      have hlc : k < cs.length := by rw [← HN.out]; exact hlt
      have hz := HSZ.out k hlc
      obtain ⟨kd, HKD⟩ : ∃ kd, Hid ((pl.nthH cs k).1 = kd) := ⟨_, Lib.hid rfl⟩
      obtain ⟨ln, HLN⟩ : ∃ ln, Hid ((pl.nthH cs k).2 = ln) := ⟨_, Lib.hid rfl⟩
      have HOK : Hid (pl.chOK (pl.nthH cs k) = (pl.inR kd 0 2 && pl.validT ln.data.toList)) := Lib.hid (by rw [← HKD.out, ← HLN.out]; rfl)
      have HBAD : ∀ (_ : (pl.inR kd 0 2 && pl.validT ln.data.toList) = false), Hid (pl.vCh cs = false) := fun h => Lib.hid (pl.vCh_bad hlc (by rw [HOK.out]; exact h))
      rw [HKD.out] at c1
      rw [HLN.out] at c2 hz
      clear hlc
      cases hin : pl.inR kd 0 2 with
      | false =>
        have hb := HBAD (by rw [hin]; rfl)
        have HI := Lib.hid hin
        clear HBAD hin
        go_wp2_with fail
        refine (inRange_any _ _ _ _).mono ?_
        rintro e w' ⟨rfl, rfl⟩
        rw [HI.out]
        go_wp2_with fail
        go_ret
        exact ⟨ret_b hb.out.symm, rfl⟩
      | true =>
        cases hv : pl.validT ln.data.toList with
        | false =>
          have hb := HBAD (by rw [hv, Bool.and_false])
          have HI := Lib.hid hin
          have HV := Lib.hid hv
          clear HBAD hin hv
          go_wp2_with fail
          refine (inRange_any _ _ _ _).mono ?_
          rintro e w' ⟨rfl, rfl⟩
          rw [HI.out]
          go_wp2_with fail
          refine (svalidText_any ln _ hz).mono ?_
          rintro e w' ⟨rfl, rfl⟩
          rw [HV.out]
          go_wp2_with fail
          go_ret
          exact ⟨ret_b hb.out.symm, rfl⟩
        | true =>
          have HC2 := Lib.hid (pl.chTo_succ HC.out (by rw [HOK.out, hin, hv]; rfl))
          have HI := Lib.hid hin
          have HV := Lib.hid hv
          clear HBAD hin hv
          go_wp2_with fail
          refine (inRange_any _ _ _ _).mono ?_
          rintro e w' ⟨rfl, rfl⟩
          rw [HI.out]
          go_wp2_with fail
          refine (svalidText_any ln _ hz).mono ?_
          rintro e w' ⟨rfl, rfl⟩
          rw [HV.out]
          go_wp2_with fail
          go_round
          case rel => exact ⟨k + 1, by omega, by go_num, HC2⟩
          case measure => simp [intOf]; omega
    · obtain rfl : k = n := by omega
      have hb := Lib.hid (pl.vCh_all (cs := cs) (by rw [← HN.out]; exact HC.out))
      go_wp2_with fail
      go_ret
      exact ⟨ret_b (by rw [hb.out, ← HN.out]; exact decide_eq_decide.2 (by omega)), rfl⟩
end Go.Proofs.Ytckfpneooknifaa
