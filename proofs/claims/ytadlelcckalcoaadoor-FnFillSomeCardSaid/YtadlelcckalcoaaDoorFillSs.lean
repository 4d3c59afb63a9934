/- Contract: FillSome of the model. -/
import Derived.Test.YtadlelcckalcoaaDoorFillSm
namespace Go.Proofs.YtadlelcckalcoaaDoor
open Go.RowKit
set_option maxRecDepth 100000
set_option linter.unusedVariables false

set_option maxHeartbeats 4000000 in
theorem sFillSome_any (s : ByteArray) (fl : List pl.Pc) (v : Value) (w : World) (hs : s.size ≤ 1048576) (hr : RPc w v fl) (hl : fl.length ≤ 1048576) (hsz : ∀ i, i < fl.length → (pl.nthQ fl i).1.size ≤ 1048576 ∧ (pl.nthQ fl i).2.size ≤ 1048576) :
    Calls Tryd.prog 26 #[.string s, v] w (SomePost s fl w) := by
  have HR := Lib.hid hr
  have HSZ := Lib.hid hsz
  clear hsz hr
  go_enter Tryd.func26, Tryd.ntmps26
  go_wp2_with fail
  refine (sparts_any s _ hs).mono ?_
  rintro e w1 ⟨hb1, hres⟩
  have HB1 := Lib.hid hb1
  clear hb1
  rcases hres with ⟨v1, u, rfl, hno⟩ | ⟨v1, u, T, N, rfl, hyes, hoT, hoN, hTl, h5, hnm, hts⟩
  · have HE := Lib.hid hno
    clear hno
    go_wp2_with fail
    go_ret2
    exact ⟨HB1.out, none, .inl ⟨rfl, .inl HE.out⟩, .inr ⟨rfl, rfl⟩⟩
  · have HE := Lib.hid hyes
    have HRT := Lib.hid hoT.reads
    have HRN := Lib.hid hoN.reads
    have HTL := Lib.hid hTl
    have HTS := Lib.hid hts
    have HNS : Hid (∀ x ∈ N, x.size ≤ 8) := Lib.hid (fun x hx => by have := (pl.nameB_parts (hnm x hx)).2.1; rwa [pl.len_eq] at this)
    have HR1 := Lib.hid (HR.out.below (Nat.le_refl _) HB1.out)
    clear hyes hoT hoN hTl hnm hts
    go_wp2_with fail
    refine (svalidFills_any fl v w1 HR1.out hl HSZ.out).mono ?_
    rintro e w2 ⟨hb2, hres⟩
    have HB2 := Lib.hid (HB1.out.trans (hb2.mono HB1.out.size))
    have HRT2 := Lib.hid (HRT.out.below (Nat.le_refl _) hb2)
    have HRN2 := Lib.hid (HRN.out.below (Nat.le_refl _) hb2)
    have HR2 := Lib.hid (HR1.out.below (Nat.le_refl _) hb2)
    clear hb2 HRT HRN HR1 HR
    rcases hres with ⟨hyes, rfl⟩ | ⟨hno, rfl⟩
    · have HV := Lib.hid hyes
      obtain ⟨vs, HVS⟩ : ∃ vs, Hid (pl.lookL (pl.toFL fl) = vs) := ⟨_, Lib.hid rfl⟩
      have HVL : Hid (∀ k x, vs k = some x → x.length ≤ 120) := Lib.hid (fun k x hx => by rw [← HVS.out] at hx; exact pl.validT_len (pl.vF_valid HV.out hx))
      obtain ⟨at0, ct0, rfl⟩ := HRT2.out.slice
      obtain ⟨an0, cn0, rfl⟩ := HRN2.out.slice
      obtain ⟨n, HN⟩ : ∃ n, Hid (n = N.length) := ⟨_, Lib.hid rfl⟩
      obtain ⟨tn, HT⟩ : ∃ tn, Hid (tn = T.length) := ⟨_, Lib.hid rfl⟩
      have HTN : Hid (tn = n + 1) := Lib.hid (by rw [HT.out, HN.out]; exact HTL.out)
      have htn0 : 0 < tn := by rw [HTN.out]; omega
      rw [← HN.out] at HRN2 h5
      rw [← HT.out] at HRT2
      rw [← HN.out, ← HT.out]
      clear hyes
      obtain ⟨bt, ot, rfl, ct⟩ := HRT2.out.at HT.out (Below.refl _ _) htn0
      have h0i : (0 : Int) < (tn : Int) := by omega
      have ct' := ct
      rw [Nat.add_zero] at ct'
      go_wp2_with fail
      clear ct ct'
      have htz0 := HTS.out (nth T 0) (by rw [nth_eq (by rw [← HT.out]; exact htn0)]; exact List.getElem_mem _)
      refine (dblS_any (nth T 0) _ (by omega)).mono ?_
      rintro e w3 ⟨rfl, rfl⟩
      have hd0 := (pl.dblB_len (nth T 0).data.toList).1
      rw [pl.len_eq] at hd0
      go_wp2_with fail
      go_loop [9, 10] (fun ov iv => ∃ (i : Nat) (q : ByteArray), i ≤ n ∧ iv = .int .i64 i ∧ ov = .string q ∧ Hid (q.size ≤ (2 * i + 1) * 240) ∧ Hid (pl.someT vs (pl.inv T N i) = q.data.toList)) (fun _ iv => n - (intOf iv).toNat)
      case atStart => exact ⟨0, pl.bs (pl.dblB (nth T 0).data.toList), Nat.zero_le _, rfl, rfl, Lib.hid (by rw [pl.bs_size]; omega), Lib.hid (pl.some_inv0 vs)⟩
      case round =>
        obtain ⟨i, q, hi, rfl, rfl, HQ, HF⟩ := hrel
        have hqz : q.size ≤ 2640 := by have := HQ.out; have : (2 * i + 1) * 240 ≤ 11 * 240 := Nat.mul_le_mul_right _ (by omega); omega
        by_cases hlt : i < n
        · obtain ⟨bn, on, rfl, cn⟩ := HRN2.out.at HN.out (Below.refl _ _) hlt
          have hi1 : i + 1 < tn := by rw [HTN.out]; omega
          obtain ⟨bt', ot', hbt, ct⟩ := HRT2.out.at HT.out (Below.refl _ _) hi1
          injection hbt with hbt; injection hbt with e1 e2; subst e1; subst e2
          have hil : i < N.length := by rw [← HN.out]; exact hlt
          have HNX := Lib.hid (pl.some_inv (vs := vs) HTL.out hil)
          rw [HF.out] at HNX
          have htz := HTS.out (nth T (i + 1)) (by rw [nth_eq (by rw [← HT.out]; exact hi1)]; exact List.getElem_mem _)
          have hnz := HNS.out (nth N i) (by rw [nth_eq hil]; exact List.getElem_mem _)
          obtain ⟨nm, HNM⟩ : ∃ nm, Hid (nth N i = nm) := ⟨_, Lib.hid rfl⟩
          obtain ⟨tx, HTX⟩ : ∃ tx, Hid (nth T (i + 1) = tx) := ⟨_, Lib.hid rfl⟩
          rw [HNM.out] at cn HNX hnz
          rw [HTX.out] at ct HNX htz
          have hi1i : (i : Int) + 1 < (tn : Int) := by omega
          have hi00 : (0 : Int) ≤ (i : Int) + 1 := by omega
          have hw1 : IntKind.i64.wrap ((i : Int) + 1) = (i : Int) + 1 := by rw [IntKind.wrap_i64]; omega
          clear hil
          go_wp2_with fail
          refine (svalueOf_any fl v nm _ HR2.out hl).mono ?_
          rintro e w3 ⟨hres, rfl⟩
          have hdt := (pl.dblB_len tx.data.toList).1
          rw [pl.len_eq] at hdt
          have hdz : (pl.bs (pl.dblB tx.data.toList)).size = (pl.dblB tx.data.toList).length := pl.bs_size _
          rcases hres with ⟨x, hx, rfl⟩ | ⟨hx, rfl⟩
          · rw [HVS.out] at hx
            have HXX := Lib.hid (HNX.out.trans (by rw [pl.some_hole_yes hx]))
            have hxl := HVL.out _ _ hx
            have hdx := (pl.dblB_len x).1
            have hxz : (pl.bs x).size = x.length := pl.bs_size x
            have hxz2 : (pl.bs (pl.dblB x)).size = (pl.dblB x).length := pl.bs_size _
            clear hx
            go_wp2_with fail
            refine (dblS_any (pl.bs x) _ (by omega)).mono ?_
            rintro e w4 ⟨rfl, rfl⟩
            rw [pl.bs_data]
            go_wp2_with fail
            refine (dblS_any tx _ (by omega)).mono ?_
            rintro e w4 ⟨rfl, rfl⟩
            go_wp2_with fail
            go_round
            case rel => exact ⟨i + 1, q ++ pl.bs (pl.dblB x) ++ pl.bs (pl.dblB tx.data.toList), by omega, by go_num, rfl, Lib.hid (by rw [ByteArray.size_append, ByteArray.size_append, hxz2, hdz]; have := HQ.out; omega), Lib.hid (by rw [HXX.out, pl.data_app, pl.data_app, pl.bs_data, pl.bs_data])⟩
            case measure => simp [intOf]; omega
          · rw [HVS.out] at hx
            have HXX := Lib.hid (HNX.out.trans (by rw [pl.some_hole_no hx]))
            clear hx
            go_wp2_with fail
            refine (dblS_any tx _ (by omega)).mono ?_
            rintro e w4 ⟨rfl, rfl⟩
            go_wp2_with fail
            go_round
            case rel => exact ⟨i + 1, q ++ (⟨#[123]⟩ : ByteArray) ++ nm ++ (⟨#[125]⟩ : ByteArray) ++ pl.bs (pl.dblB tx.data.toList), by omega, by go_num, rfl, Lib.hid (by rw [ByteArray.size_append, ByteArray.size_append, ByteArray.size_append, ByteArray.size_append, hdz]; show q.size + 1 + nm.size + 1 + _ ≤ _; have := HQ.out; omega), Lib.hid (by rw [HXX.out, pl.data_app, pl.data_app, pl.data_app, pl.data_app, pl.bs_data]; simp)⟩
            case measure => simp [intOf]; omega
        · obtain rfl : i = n := by omega
          have HF2 : Hid (pl.someT vs (pl.toT T N) = q.data.toList) := Lib.hid (by rw [← pl.inv_done HTL.out, ← HN.out]; exact HF.out)
          have HFB : Hid (pl.formB q = pl.validT q.data.toList) := Lib.hid (by rw [← HF2.out]; exact pl.some_ok HE.out vs HF2.out.symm)
          go_wp2_with fail
          refine (sValidForm_any q _ (by omega)).mono ?_
          rintro e w3 ⟨rfl, hb3⟩
          have HB3 := Lib.hid (HB2.out.trans (hb3.mono HB2.out.size))
          rw [HFB.out]
          clear hb3
          cases hvt : pl.validT q.data.toList with
          | false =>
            have HVT := Lib.hid hvt
            clear hvt
            go_wp2_with fail
            go_ret2
            refine ⟨HB3.out, none, .inr ⟨HV.out, _, HE.out, .inr ?_⟩, .inr ⟨rfl, rfl⟩⟩
            rw [HVS.out, HF2.out]; exact ⟨HVT.out, rfl⟩
          | true =>
            have HVT := Lib.hid hvt
            clear hvt
            go_wp2_with fail
            go_ret2
            refine ⟨HB3.out, some q.data.toList, .inr ⟨HV.out, _, HE.out, .inl ?_⟩, .inl ⟨_, rfl, by rw [pl.bs_self]; rfl⟩⟩
            rw [HVS.out, HF2.out]; exact ⟨HVT.out, rfl⟩
    · have HE2 := Lib.hid hno
      clear hno
      go_wp2_with fail
      go_ret2
      exact ⟨HB2.out, none, .inl ⟨rfl, .inr HE2.out⟩, .inr ⟨rfl, rfl⟩⟩
end Go.Proofs.YtadlelcckalcoaaDoor
