/- Contract: the model's ReadRows. -/
import Derived.Test.YtpfheanpbbfpdaaDoorPkF
import Derived.Test.YtpfheanpbbfpdaaDoorTbV
namespace Go.Proofs.YtpfheanpbbfpdaaDoor
open Go.RowKit
set_option maxRecDepth 100000
set_option linter.unusedVariables false

set_option maxHeartbeats 4000000 in
theorem sReadRows_any (ls : List ByteArray) (v : Value) (w : World) (hr : RStrs w v ls) (hl : ls.length ≤ 1048576) (hsz : ∀ i, i < ls.length → (nth ls i).size ≤ 1048576) :
    Calls Tryd.prog 16 #[v] w fun e w' => ∃ v', e = .returned (.tuple #[v', .bool (pl.readB ls)]) ∧ HPs w.heap.size w' v' (pl.readR ls) ∧ Below w.heap.size w w' := by
  obtain ⟨i0, hi, hz0, hz1, hz2⟩ := info_parts infoS
  obtain ⟨j0, hj, hy0, hy1, hy2⟩ := info_parts infoSS
  have HR := Lib.hid hr
  have HSZ := Lib.hid hsz
  obtain ⟨a0, cap0, rfl⟩ := hr.slice
  obtain ⟨n, HN⟩ : ∃ n, Hid (n = ls.length) := ⟨_, Lib.hid rfl⟩
  rw [← HN.out] at HR hl ⊢
  obtain ⟨T, HT⟩ : ∃ T, Hid (pl.readP ls = T) := ⟨_, Lib.hid rfl⟩
  have HTL : Hid (T.length = n) := Lib.hid (by rw [← HT.out, pl.readP_len, HN.out])
  clear hr hsz
  by_cases h6 : 6 < n
  · have HC : Hid (pl.readB ls = false) := Lib.hid (pl.readB_many (by rw [← HN.out]; exact h6))
    have HC2 := Lib.hid (pl.readR_no HC.out)
    go_enter Tryd.func16, Tryd.ntmps16
    go_wp2_with fail
    go_ret2
    exact ⟨_, by rw [HC.out]; rfl, by rw [HC2.out]; exact HPs.nil _ _, Below.refl _ _⟩
  go_enter Tryd.func16, Tryd.ntmps16
  go_wp2_with fail
  have HO0 : Hid (OPs w.heap.size (w.alloc (.cells #[] 23)) (.slice (some ⟨w.heap.size, 0, none⟩) 0 0) [] (T.take 0)) := Lib.hid ⟨World.ownsRow_made _ _ _ (Nat.le_refl _) (by unfold maxLen; omega) rfl, Inn.nil _ _⟩
  have HB0 : Hid (Below w.heap.size w (w.alloc (.cells #[] 23))) := Lib.hid ((Below.refl _ _).alloc (Nat.le_refl _) _)
  go_loopw [4, 5] (fun ov iv wr => ∃ (k : Nat) (us : List Value), k ≤ n ∧ iv = .int .i64 k ∧ Hid (OPs w.heap.size wr ov us (T.take k)) ∧ Hid (Below w.heap.size w wr) ∧ Hid (∀ i, i < k → (nth ls i).size ≤ 180)) (fun _ iv _ => n - (intOf iv).toNat)
  case atStart => exact ⟨0, [], Nat.zero_le _, rfl, HO0, HB0, Lib.hid (fun i h => absurd h (by omega))⟩
  case round =>
    obtain ⟨k, us, hk, rfl, HO, HB, HSH⟩ := hrel
    by_cases hlt : k < n
    · have hkl : Hid (k < ls.length) := Lib.hid (by rw [← HN.out]; exact hlt)
      have hkT : Hid (k < T.length) := Lib.hid (by rw [HTL.out]; exact hlt)
      have HUL : Hid (us.length = k) := Lib.hid (HO.out.2.len.trans (by rw [List.length_take, HTL.out]; omega))
      have LT := Lib.hid HO.out.lt
      have hwr : w.heap.size ≤ wr.heap.size := HB.out.size
      have HB3 : Hid (Below w.heap.size w (wr.alloc (.cells #[] 9))) := Lib.hid (HB.out.alloc hwr _)
      obtain ⟨b1, o1, rfl, hx⟩ := HR.out.at HN.out HB3.out hlt
      have hxm := HSZ.out k hkl.out
      obtain ⟨x, HX⟩ : ∃ x, Hid (nth ls k = x) := ⟨_, Lib.hid rfl⟩
      rw [HX.out] at hx hxm
      by_cases hbig : 180 < x.size
      · have HC : Hid (pl.readB ls = false) := Lib.hid (pl.readB_long (pl.shortLs_no hkl.out (by rw [HX.out]; exact hbig)))
        have HC2 := Lib.hid (pl.readR_no HC.out)
        go_wp2_with fail
        go_ret2
        exact ⟨_, by rw [HC.out]; rfl, by rw [HC2.out]; exact HPs.nil _ _, HB3.out⟩
      · have HTK : Hid (pl.readRow x = pl.nthP T k) := Lib.hid (by rw [← HT.out, pl.readP_nth hkl.out, HX.out])
        have HSH2 : Hid (∀ i, i < k + 1 → (nth ls i).size ≤ 180) := Lib.hid (fun i hi => by
          rcases Nat.lt_or_ge i k with h | h
          · exact HSH.out i h
          · obtain rfl : i = k := by omega
            rw [HX.out]; omega)
        go_wp2_with fail
        have HO3 : Hid (OPs w.heap.size (wr.alloc (.cells #[] 9)) u4 us (T.take k)) := Lib.hid (HO.out.below (Nat.le_refl _) ((Below.refl _ _).alloc (Nat.le_refl _) _))
        have HQ3 : Hid (OStrs wr.heap.size (wr.alloc (.cells #[] 9)) (.slice (some ⟨wr.heap.size, 0, none⟩) 0 0) []) := Lib.hid (World.ownsRow_made _ _ _ (Nat.le_refl _) (by unfold maxLen; omega) rfl)
        have hS3 : wr.heap.size ≤ (wr.alloc (.cells #[] 9)).heap.size := by simp
        obtain ⟨w3, HW3⟩ : ∃ u, Hid (wr.alloc (.cells #[] 9) = u) := ⟨_, Lib.hid rfl⟩
        rw [HW3.out] at HO3 HQ3 HB3 hS3 ⊢
        obtain ⟨D, HD⟩ : ∃ D, Hid (wr.heap.size = D) := ⟨_, Lib.hid rfl⟩
        rw [HD.out] at HQ3 LT hwr hS3 ⊢
        clear HO HB hx
        go_loopw [6, 7, 8] (fun cv fv jv wi => ∃ (f j : Nat) (out : List ByteArray), f ≤ j ∧ j ≤ x.size ∧ jv = .int .i64 j ∧ fv = .int .i64 f ∧ Hid (pl.CutAt x f j out) ∧ Hid (OStrs D wi cv out) ∧ Hid (OPs w.heap.size wi u4 us (T.take k)) ∧ Hid (Below w.heap.size w wi) ∧ D ≤ wi.heap.size) (fun _ _ jv _ => x.size - (intOf jv).toNat)
        case atStart => exact ⟨0, 0, [], Nat.le_refl _, Nat.zero_le _, rfl, rfl, Lib.hid (pl.CutAt.start x), HQ3, HO3, HB3, hS3⟩
        case round =>
          obtain ⟨f, j, out, hfj, hjx, rfl, rfl, HCU, HQ, HOi, HBi, hDi⟩ := hrel
          obtain ⟨wi, rfl⟩ : ∃ wi : World, wi = wr := ⟨_, rfl⟩
          obtain ⟨b3, o3, e3, hxj⟩ := HR.out.at HN.out HBi.out hlt
          simp only [Option.some.injEq, Addr.mk.injEq, and_true] at e3
          obtain ⟨rfl, rfl⟩ := e3
          rw [HX.out] at hxj
          have hol : Hid (out.length ≤ 181) := Lib.hid (by have := HCU.out.len; omega)
          have hw3 : IntKind.i64.wrap ((j : Int) + 3) = (j : Int) + 3 := by rw [IntKind.wrap_i64]; omega
          by_cases h3 : j + 3 ≤ x.size
          · have h3i : (j : Int) + 3 ≤ (x.size : Int) := by omega
            cases hb : ((x.extract j (j + 3)).toList == [32, 124, 32]) with
            | true =>
              obtain ⟨t, HTT⟩ : ∃ t, Hid (pl.trimB (x.extract f j) = t) := ⟨_, Lib.hid rfl⟩
              have HCN := Lib.hid (HCU.out.bar hb HTT.out)
              have hex : (x.extract f j).size ≤ 180 := by rw [ByteArray.size_extract]; omega
              go_wp2_with fail
              refine (strim_any (x.extract f j) _ (by omega)).mono ?_
              rintro e w' ⟨rfl, rfl⟩
              rw [HTT.out]
              go_wp2_with (at_builtin; refine wpList_append_own _ rfl _ _ 23 rfl D 9 i0 (.string ByteArray.empty) 1 16 Tryd.underlying23 hi hz0 hz1 hz2 rfl (by decide) _ _ _ rfl (World.ownsRow.alloc HQ.out _) ⟨_, 0, none⟩ 1 1 [.string t] rfl rfl ?ka1 ?ka2 ?ka3 ?ka4 ?ka5 ?_)
              case ka1 => exact cell_one_new _ _ _
              case ka2 => intro u hu; simp at hu; subst hu; rfl
              case ka3 => have := hol.out; unfold maxLen; omega
              case ka4 => have := hol.out; omega
              case ka5 => simp; omega
              intro v5 w5 hown5 hgrow5 _
              have HQ5 := Lib.hid (OStrs.push1 hown5)
              have hbE : Below D wi w5 := ((Below.refl _ _).alloc hDi _).grown hgrow5 (by simp; omega) (fun k hk => (World.ownsRow.lt HQ.out k hk).1)
              have HO5 : Hid (OPs w.heap.size w5 u4 us (T.take k)) := Lib.hid (OPs.grown (HOi.out.below (Nat.le_refl _) ((Below.refl _ _).alloc (Nat.le_refl _) _)) (World.ownsRow.alloc HQ.out _) hgrow5 (.inr LT.out))
              have HB5 := Lib.hid (HBi.out.trans (hbE.mono hwr))
              have hD5 : D ≤ w5.heap.size := Nat.le_trans hDi hbE.size
              clear hown5 hgrow5 hbE hb
              go_wp2
              go_roundw
              case rel => exact ⟨j + 3, j + 3, _, Nat.le_refl _, h3, by go_num, by go_num, HCN, HQ5, HO5, HB5, hD5⟩
              case measure => simp [intOf]; omega
            | false =>
              have HCN := Lib.hid (HCU.out.step hfj h3 hb)
              go_wp2
              go_roundw
              case rel => exact ⟨f, j + 1, out, by omega, by omega, by go_num, rfl, HCN, HQ, HOi, HBi, hDi⟩
              case measure => simp [intOf]; omega
          · have h3i : ¬ (j : Int) + 3 ≤ (x.size : Int) := by omega
            obtain ⟨t, HTT⟩ : ∃ t, Hid (pl.trimB (x.extract f x.size) = t) := ⟨_, Lib.hid rfl⟩
            have HLAST : Hid (out ++ [t] = pl.nthP T k) := Lib.hid ((HCU.out.last hfj hjx h3 HTT.out).trans HTK.out)
            have hex : (x.extract f x.size).size ≤ 180 := by rw [ByteArray.size_extract]; omega
            have HTX : Hid (T.take k ++ [pl.nthP T k] = T.take (k + 1)) := Lib.hid (pl.take_rows hkT.out)
            go_wp2_with fail
            refine (strim_any (x.extract f x.size) _ (by omega)).mono ?_
            rintro e w' ⟨rfl, rfl⟩
            rw [HTT.out]
            go_wp2_with (at_builtin; refine wpList_append_own _ rfl _ _ 23 rfl D 9 i0 (.string ByteArray.empty) 1 16 Tryd.underlying23 hi hz0 hz1 hz2 rfl (by decide) _ _ _ rfl (World.ownsRow.alloc HQ.out _) ⟨_, 0, none⟩ 1 1 [.string t] rfl rfl ?ka1 ?ka2 ?ka3 ?ka4 ?ka5 ?_)
            case ka1 => exact cell_one_new _ _ _
            case ka2 => intro u hu; simp at hu; subst hu; rfl
            case ka3 => have := hol.out; unfold maxLen; omega
            case ka4 => have := hol.out; omega
            case ka5 => simp; omega
            intro v5 w5 hown5 hgrow5 _
            have HQ5 := Lib.hid (OStrs.push1 hown5)
            rw [HLAST.out] at HQ5
            have hbE : Below D wi w5 := ((Below.refl _ _).alloc hDi _).grown hgrow5 (by simp; omega) (fun k hk => (World.ownsRow.lt HQ.out k hk).1)
            have HO5 : Hid (OPs w.heap.size w5 u4 us (T.take k)) := Lib.hid (OPs.grown (HOi.out.below (Nat.le_refl _) ((Below.refl _ _).alloc (Nat.le_refl _) _)) (World.ownsRow.alloc HQ.out _) hgrow5 (.inr LT.out))
            have HB5 := Lib.hid (HBi.out.trans (hbE.mono hwr))
            have hD5 : D ≤ w5.heap.size := Nat.le_trans hDi hbE.size
            obtain ⟨b5, c5, hv5⟩ := HQ5.out.reads.slice
            obtain ⟨M, HMM⟩ : ∃ M, Hid ((pl.nthP T k).length = M) := ⟨_, Lib.hid rfl⟩
            rw [HMM.out] at hv5
            subst hv5
            clear hown5 hgrow5 hbE
            go_wp2_with (at_builtin; refine wpList_append_own _ rfl _ _ 25 rfl w.heap.size 23 j0 (.slice none 0 0) 1 24 Tryd.underlying25 hj hy0 hy1 hy2 rfl (by decide) _ _ _ rfl (World.ownsRow.alloc HO5.out.1 _) ⟨w5.heap.size, 0, none⟩ 1 1 [.slice b5 M c5] rfl rfl ?kb1 ?kb2 ?kb3 ?kb4 ?kb5 ?_)
            case kb1 => exact cell_one_new _ _ _
            case kb2 => intro u hu; simp at hu; subst hu; rfl
            case kb3 => rw [HUL.out]; unfold maxLen; omega
            case kb4 => rw [HUL.out]; omega
            case kb5 => simp; omega
            intro v6 w6 hown6 hgrow6 _
            have HP6 := Lib.hid (HO5.out.pushed HQ5.out hwr LT.out hown6 hgrow6)
            rw [HTX.out] at HP6
            have hbE : Below w.heap.size w5 w6 := ((Below.refl _ _).alloc (by omega) _).grown hgrow6 (by simp; omega) (fun k hk => (World.ownsRow.lt HO5.out.1 k hk).1)
            have HB6 := Lib.hid (HB5.out.trans hbE)
            clear hown6 hgrow6 hbE
            go_wp2
            go_roundw
            case rel => exact ⟨k + 1, _, by omega, by go_num, HP6, HB6, HSH2⟩
            case measure => simp [intOf]; omega
    · obtain rfl : k = n := by omega
      have HE : Hid (OPs w.heap.size wr u4 us T) := Lib.hid (by
        have := HO.out
        rw [List.take_of_length_le (by rw [HTL.out]; exact Nat.le_refl _)] at this
        exact this)
      have HSM : Hid (Small T) := Lib.hid (by
        obtain ⟨s1, s2, s3⟩ := pl.readP_small (ls := ls) (by rw [← HN.out]; exact hl) (fun i hi => HSH.out i (by rw [HN.out]; exact hi))
        rw [HT.out] at s1 s2 s3
        exact ⟨s1, s2, s3⟩)
      have HRB : Hid (pl.readB ls = pl.vRows T) := Lib.hid (by rw [pl.readB_rows (fun i hi => HSH.out i (by rw [HN.out]; exact hi)), HT.out])
      go_wp2_with fail
      refine (svalidRows_any T _ _ HE.out.reads HSM.out).mono ?_
      rintro e w4 ⟨rfl, hb4⟩
      have HB4 := Lib.hid (HB.out.trans (hb4.mono HB.out.size))
      have HOP4 := Lib.hid (HE.out.below (Nat.le_refl _) hb4)
      clear hb4
      cases hv : pl.vRows T with
      | false =>
        have HC : Hid (pl.readB ls = false) := Lib.hid (HRB.out.trans hv)
        have HC2 := Lib.hid (pl.readR_no HC.out)
        clear hv
        go_wp2_with fail
        go_ret2
        exact ⟨_, by rw [HC.out]; rfl, by rw [HC2.out]; exact HPs.nil _ _, HB4.out⟩
      | true =>
        have HC : Hid (pl.readB ls = true) := Lib.hid (HRB.out.trans hv)
        have HC2 : Hid (pl.readR ls = T) := Lib.hid (by rw [pl.readR_yes HC.out, HT.out])
        clear hv
        go_wp2_with fail
        go_ret2
        exact ⟨_, by rw [HC.out]; rfl, ⟨us, by rw [HC2.out]; exact HOP4.out⟩, HB4.out⟩
end Go.Proofs.YtpfheanpbbfpdaaDoor
