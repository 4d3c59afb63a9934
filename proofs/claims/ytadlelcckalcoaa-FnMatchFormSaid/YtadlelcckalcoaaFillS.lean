/- Contract: FillForm of the model. -/
import Derived.Test.YtadlelcckalcoaaFillC
import Derived.Test.YtadlelcckalcoaaFillI
import Derived.Test.YtadlelcckalcoaaParts2
namespace Go.Proofs.Ytadlelcckalcoaa
open Go.RowKit
set_option maxRecDepth 100000
set_option linter.unusedVariables false
namespace pl
theorem data_app (a b : ByteArray) : (a ++ b).data.toList = a.data.toList ++ b.data.toList := by simp
theorem toT_at : ∀ {T N : List ByteArray} {k : Nat}, T.length = N.length + 1 → k < N.length → ∃ r, toT T N = (mkT (T.take k) (N.take k) ++ chT (nth T k)) ++ Sum.inr (nth N k).data.toList :: r
  | [], N, k, h, _ => by simp at h
  | t :: T, [], k, h, hk => by simp at hk
  | t :: T, n :: N, 0, h, hk => ⟨toT T N, rfl⟩
  | t :: T, n :: N, k + 1, h, hk => by
    obtain ⟨r, hr⟩ := toT_at (T := T) (N := N) (k := k) (by simpa using h) (by simpa using hk)
    refine ⟨r, ?_⟩
    show chT t ++ Sum.inr n.data.toList :: toT T N = ((chT t ++ Sum.inr n.data.toList :: mkT (T.take k) (N.take k)) ++ chT (nth T k)) ++ Sum.inr (nth N k).data.toList :: r
    rw [hr]; simp
def inv (T N : List ByteArray) (k : Nat) : List Tok := mkT (T.take k) (N.take k) ++ chT (nth T k)
theorem take_next {l : List ByteArray} {k : Nat} (h : k < l.length) : l.take (k + 1) = l.take k ++ [nth l k] := by rw [List.take_succ_eq_append_getElem h, nth_eq h]
theorem inv_zero {T N : List ByteArray} (vs : Vals) : fillT vs (inv T N 0) = some (nth T 0).data.toList := by
  show fillT vs ([] ++ chT (nth T 0)) = _
  rw [List.nil_append]; exact fillT_bytes vs _
theorem inv_next {T N : List ByteArray} {k : Nat} {vs : Vals} {o x : List UInt8} (hl : T.length = N.length + 1) (hk : k < N.length) (ho : fillT vs (inv T N k) = some o) (hx : vs (nth N k).data.toList = some x) : fillT vs (inv T N (k + 1)) = some (o ++ x ++ (nth T (k + 1)).data.toList) := by
  have : inv T N (k + 1) = (inv T N k ++ [Sum.inr (nth N k).data.toList]) ++ chT (nth T (k + 1)) := by
    unfold inv
    rw [take_next (l := T) (by omega), take_next hk, mkT_snoc _ _ (by rw [List.length_take, List.length_take]; omega)]
    simp
  rw [this, fillT_append, fillT_append, ho, fillT_hole, hx]
  show ((fillT vs (chT (nth T (k + 1)))).map _) = _
  rw [show chT (nth T (k + 1)) = (nth T (k + 1)).data.toList.map Sum.inl from rfl, fillT_bytes]; rfl
theorem inv_stop {T N : List ByteArray} {k : Nat} {vs : Vals} {o : List UInt8} (hl : T.length = N.length + 1) (hk : k < N.length) (ho : fillT vs (inv T N k) = some o) (hx : vs (nth N k).data.toList = none) : fillT vs (toT T N) = none := by
  obtain ⟨r, hr⟩ := toT_at hl hk
  rw [hr, fillT_append, show mkT (T.take k) (N.take k) ++ chT (nth T k) = inv T N k from rfl, ho, fillT_cons, show valT vs (Sum.inr (nth N k).data.toList) = vs (nth N k).data.toList from rfl, hx]; rfl
theorem inv_done {T N : List ByteArray} (hl : T.length = N.length + 1) : inv T N N.length = toT T N := by
  unfold inv
  rw [List.take_length, ← toT_last _ (by rw [List.length_take]; omega)]
  congr 1
  rw [← take_next (by omega), List.take_of_length_le (by omega)]
end pl

set_option maxHeartbeats 4000000 in
theorem sFillForm_any (s : ByteArray) (fl : List pl.Pc) (v : Value) (w : World) (hs : s.size ≤ 1048576) (hr : RPc w v fl) (hl : fl.length ≤ 1048576) (hsz : ∀ i, i < fl.length → (pl.nthQ fl i).1.size ≤ 1048576 ∧ (pl.nthQ fl i).2.size ≤ 1048576) :
    Calls Try.prog 36 #[.string s, v] w (FillPost s fl w) := by
  have HR := Lib.hid hr
  have HSZ := Lib.hid hsz
  clear hsz hr
  go_enter Try.func36, Try.ntmps36
  go_wp2_with fail
  refine (sparts_any s _ hs).mono ?_
  rintro e w1 ⟨hb1, hres⟩
  have HB1 := Lib.hid hb1
  clear hb1
  rcases hres with ⟨v1, u, rfl, hno⟩ | ⟨v1, u, T, N, rfl, hyes, hoT, hoN, hTl, h5, hnm, hts⟩
  · have HE := Lib.hid hno
    clear hno
    go_wp2_with fail
    go_ret2
    exact ⟨HB1.out, none, .inl ⟨rfl, .inl HE.out⟩, .inr ⟨rfl, rfl⟩⟩
  · have HE := Lib.hid hyes
    have HRT := Lib.hid hoT.reads
    have HRN := Lib.hid hoN.reads
    have HTL := Lib.hid hTl
    have HTS := Lib.hid hts
    have HR1 := Lib.hid (HR.out.below (Nat.le_refl _) HB1.out)
    clear hyes hoT hoN hTl hnm hts
    go_wp2_with fail
    refine (svalidFills_any fl v w1 HR1.out hl HSZ.out).mono ?_
    rintro e w2 ⟨hb2, hres⟩
    have HB2 := Lib.hid (HB1.out.trans (hb2.mono HB1.out.size))
    have HRT2 := Lib.hid (HRT.out.below (Nat.le_refl _) hb2)
    have HRN2 := Lib.hid (HRN.out.below (Nat.le_refl _) hb2)
    have HR2 := Lib.hid (HR1.out.below (Nat.le_refl _) hb2)
    clear hb2 HRT HRN HR1 HR
    rcases hres with ⟨hyes, rfl⟩ | ⟨hno, rfl⟩
    · have HV := Lib.hid hyes
      obtain ⟨vs, HVS⟩ : ∃ vs, Hid (pl.lookL (pl.toFL fl) = vs) := ⟨_, Lib.hid rfl⟩
      have HVL : Hid (∀ k x, vs k = some x → x.length ≤ 120) := Lib.hid (fun k x hx => by rw [← HVS.out] at hx; exact pl.validT_len (pl.vF_valid HV.out hx))
      obtain ⟨at0, ct0, rfl⟩ := HRT2.out.slice
      obtain ⟨an0, cn0, rfl⟩ := HRN2.out.slice
      obtain ⟨n, HN⟩ : ∃ n, Hid (n = N.length) := ⟨_, Lib.hid rfl⟩
      obtain ⟨tn, HT⟩ : ∃ tn, Hid (tn = T.length) := ⟨_, Lib.hid rfl⟩
      have HTN : Hid (tn = n + 1) := Lib.hid (by rw [HT.out, HN.out]; exact HTL.out)
      have htn0 : 0 < tn := by rw [HTN.out]; omega
      rw [← HN.out] at HRN2 h5
      rw [← HT.out] at HRT2
      rw [← HN.out, ← HT.out]
      clear hyes
      obtain ⟨bt, ot, rfl, ct⟩ := HRT2.out.at HT.out (Below.refl _ _) htn0
      have h0i : (0 : Int) < (tn : Int) := by omega
      have ct' := ct
      rw [Nat.add_zero] at ct'
      go_wp2_with fail
      clear ct
      go_loop [9, 10] (fun ov iv => ∃ (i : Nat) (q : ByteArray), i ≤ n ∧ iv = .int .i64 i ∧ ov = .string q ∧ Hid (q.size ≤ (2 * i + 1) * 120) ∧ Hid (pl.fillT vs (pl.inv T N i) = some q.data.toList)) (fun _ iv => n - (intOf iv).toNat)
      case atStart => exact ⟨0, nth T 0, Nat.zero_le _, rfl, rfl, Lib.hid (by have := HTS.out (nth T 0) (by rw [nth_eq (by rw [← HT.out]; exact htn0)]; exact List.getElem_mem _); omega), Lib.hid (pl.inv_zero vs)⟩
      case round =>
        obtain ⟨i, q, hi, rfl, rfl, HQ, HF⟩ := hrel
        have hqz : q.size ≤ 1320 := by have := HQ.out; have : (2 * i + 1) * 120 ≤ 11 * 120 := Nat.mul_le_mul_right _ (by omega); omega
        by_cases hlt : i < n
        · obtain ⟨bn, on, rfl, cn⟩ := HRN2.out.at HN.out (Below.refl _ _) hlt
          have hi1 : i + 1 < tn := by rw [HTN.out]; omega
          obtain ⟨bt', ot', hbt, ct⟩ := HRT2.out.at HT.out (Below.refl _ _) hi1
          injection hbt with hbt; injection hbt with e1 e2; subst e1; subst e2
          have hil : i < N.length := by rw [← HN.out]; exact hlt
          have HNX := Lib.hid (fun x => pl.inv_next (x := x) HTL.out hil HF.out)
          have HST := Lib.hid (pl.inv_stop HTL.out hil HF.out)
          have htz := HTS.out (nth T (i + 1)) (by rw [nth_eq (by rw [← HT.out]; exact hi1)]; exact List.getElem_mem _)
          obtain ⟨nm, HNM⟩ : ∃ nm, Hid (nth N i = nm) := ⟨_, Lib.hid rfl⟩
          obtain ⟨tx, HTX⟩ : ∃ tx, Hid (nth T (i + 1) = tx) := ⟨_, Lib.hid rfl⟩
          rw [HNM.out] at cn HNX HST
          rw [HTX.out] at ct HNX htz
          have hi1i : (i : Int) + 1 < (tn : Int) := by omega
          have hi00 : (0 : Int) ≤ (i : Int) + 1 := by omega
          have hw1 : IntKind.i64.wrap ((i : Int) + 1) = (i : Int) + 1 := by rw [IntKind.wrap_i64]; omega
          clear hil
          go_wp2_with fail
          refine (svalueOf_any fl v nm _ HR2.out hl).mono ?_
          rintro e w3 ⟨hres, rfl⟩
          rcases hres with ⟨x, hx, rfl⟩ | ⟨hx, rfl⟩
          · rw [HVS.out] at hx
            have HXX := Lib.hid (HNX.out x hx)
            have hxl := HVL.out _ _ hx
            have hxz : (pl.bs x).size = x.length := pl.bs_size x
            clear hx
            go_wp2_with fail
            go_round
            case rel => exact ⟨i + 1, q ++ pl.bs x ++ tx, by omega, by go_num, rfl, Lib.hid (by rw [ByteArray.size_append, ByteArray.size_append, hxz]; have := HQ.out; omega), Lib.hid (by rw [HXX.out, pl.data_app, pl.data_app, pl.bs_data])⟩
            case measure => simp [intOf]; omega
          · rw [HVS.out] at hx
            have HXX := Lib.hid (HST.out hx)
            clear hx
            go_wp2_with fail
            go_ret2
            refine ⟨HB2.out, none, .inr ⟨HV.out, _, HE.out, .inl ⟨?_, rfl⟩⟩, .inr ⟨rfl, rfl⟩⟩
            rw [HVS.out]; exact HXX.out
        · obtain rfl : i = n := by omega
          have HF2 : Hid (pl.fillT vs (pl.toT T N) = some q.data.toList) := Lib.hid (by rw [← pl.inv_done HTL.out, ← HN.out]; exact HF.out)
          go_wp2_with fail
          refine (svalidText_any q _ (by unfold maxLen; omega)).mono ?_
          rintro e w3 ⟨rfl, rfl⟩
          cases hvt : pl.validT q.data.toList with
          | false =>
            have HVT := Lib.hid hvt
            clear hvt
            go_wp2_with fail
            go_ret2
            refine ⟨HB2.out, none, .inr ⟨HV.out, _, HE.out, .inr ⟨_, ?_, .inr ⟨HVT.out, rfl⟩⟩⟩, .inr ⟨rfl, rfl⟩⟩
            rw [HVS.out]; exact HF2.out
          | true =>
            have HVT := Lib.hid hvt
            clear hvt
            go_wp2_with fail
            go_ret2
            refine ⟨HB2.out, some _, .inr ⟨HV.out, _, HE.out, .inr ⟨_, ?_, .inl ⟨HVT.out, rfl⟩⟩⟩, .inl ⟨_, rfl, by rw [pl.bs_self]; rfl⟩⟩
            rw [HVS.out]; exact HF2.out
    · have HE2 := Lib.hid hno
      clear hno
      go_wp2_with fail
      go_ret2
      exact ⟨HB2.out, none, .inl ⟨rfl, .inr HE2.out⟩, .inr ⟨rfl, rfl⟩⟩
end Go.Proofs.Ytadlelcckalcoaa
