/- Contracts: FillSome of both sides. -/
import Derived.Test.YtadlelcckalcoaaDoorFillS
import Derived.Test.YtadlelcckalcoaaDoorEsc
import Derived.Test.YtadlelcckalcoaaDoorVForm
namespace Go.Proofs.YtadlelcckalcoaaDoor
open Go.RowKit Go.Maps
set_option maxRecDepth 100000
set_option linter.unusedVariables false
namespace pl
theorem some_tok_yes {vs : Vals} {n p : ByteArray} {x : List UInt8} (h : valP vs n p = some x) : someT vs (tokP n p) = dblB x := by
  by_cases h0 : n.size = 0
  · rw [valP_plain vs p h0] at h; injection h with h
    rw [tokP_plain p h0, someT_bytes, h]
  · rw [valP_hole vs p h0] at h
    rw [tokP_hole p h0, someT_hole, h]
theorem some_tok_no {vs : Vals} {n p : ByteArray} (h : valP vs n p = none) : someT vs (tokP n p) = 123 :: (n.data.toList ++ [125]) := by
  by_cases h0 : n.size = 0
  · rw [valP_plain vs p h0] at h; cases h
  · rw [valP_hole vs p h0] at h
    rw [tokP_hole p h0, someT_hole, h]
theorem some_next {vs : Vals} {ps : List Pc} {k : Nat} (hk : k < ps.length) : someT vs (flatTo ps (k + 1)) = someT vs (flatTo ps k) ++ someT vs (tokP (nthQ ps k).1 (nthQ ps k).2) := by
  rw [flatTo_succ hk, someT_append]
/-- what FillSome answers -/
def SomeIs (s : ByteArray) (fl : List Pc) (o : Option (List UInt8)) : Prop :=
  (o = none ∧ (formT s.data.toList = none ∨ ¬ vF fl)) ∨ (vF fl ∧ ∃ ts, formT s.data.toList = some ts ∧ ((validT (someT (lookL (toFL fl)) ts) = true ∧ o = some (someT (lookL (toFL fl)) ts)) ∨ (validT (someT (lookL (toFL fl)) ts) = false ∧ o = none)))
theorem SomeIs.uniq {s : ByteArray} {fl : List Pc} {o o' : Option (List UInt8)} (h : SomeIs s fl o) (h' : SomeIs s fl o') : o = o' := by
  rcases h with ⟨rfl, h⟩ | ⟨hv, ts, ht, h⟩
  · rcases h' with ⟨rfl, h'⟩ | ⟨hv', ts', ht', h'⟩
    · rfl
    · rcases h with h | h
      · rw [h] at ht'; cases ht'
      · exact absurd hv' h
  · rcases h' with ⟨rfl, h'⟩ | ⟨hv', ts', ht', h'⟩
    · rcases h' with h' | h'
      · rw [h'] at ht; cases ht
      · exact absurd hv h'
    · rw [ht] at ht'; injection ht' with e; subst e
      rcases h with ⟨h, rfl⟩ | ⟨h, rfl⟩ <;> rcases h' with ⟨h', rfl⟩ | ⟨h', rfl⟩
      · rfl
      · rw [h] at h'; cases h'
      · rw [h] at h'; cases h'
      · rfl
theorem formT_named {s : List UInt8} {ts : List Tok} (h : formT s = some ts) : named ts ∧ (holesT ts).length ≤ 5 := by
  obtain ⟨_, h1, h2⟩ := formT_parts h
  exact ⟨(toks_named s.length s (Nat.le_refl _) ts h1).1, h2⟩
theorem some_ok {s : List UInt8} {ts : List Tok} (h : formT s = some ts) (vs : Vals) {q : ByteArray} (hq : q.data.toList = someT vs ts) : formB q = validT (someT vs ts) := by
  obtain ⟨h1, h2⟩ := formT_named h
  unfold formB
  rw [hq]
  cases hv : validT (someT vs ts) with
  | true => rw [some_form h1 h2 hv]; rfl
  | false => rw [formT_text hv]; rfl
theorem inv_eq {T N : List ByteArray} {k : Nat} (hl : T.length = N.length + 1) (hk : k < N.length) : inv T N (k + 1) = (inv T N k ++ [Sum.inr (nth N k).data.toList]) ++ chT (nth T (k + 1)) := by
  unfold inv
  rw [take_next (l := T) (by omega), take_next hk, mkT_snoc _ _ (by rw [List.length_take, List.length_take]; omega)]
  simp
theorem some_inv0 {T N : List ByteArray} (vs : Vals) : someT vs (inv T N 0) = dblB (nth T 0).data.toList := by
  show someT vs ([] ++ chT (nth T 0)) = _
  rw [List.nil_append]; exact someT_bytes vs _
theorem some_inv {T N : List ByteArray} {k : Nat} {vs : Vals} (hl : T.length = N.length + 1) (hk : k < N.length) : someT vs (inv T N (k + 1)) = (someT vs (inv T N k) ++ someT vs [Sum.inr (nth N k).data.toList]) ++ dblB (nth T (k + 1)).data.toList := by
  rw [inv_eq hl hk, someT_append, someT_append, show chT (nth T (k + 1)) = (nth T (k + 1)).data.toList.map Sum.inl from rfl, someT_bytes]
theorem some_hole_yes {vs : Vals} {n x : List UInt8} (h : vs n = some x) : someT vs [Sum.inr n] = dblB x := by rw [someT_hole, h]
theorem some_hole_no {vs : Vals} {n : List UInt8} (h : vs n = none) : someT vs [Sum.inr n] = 123 :: (n ++ [125]) := by rw [someT_hole, h]
end pl

def SomePost (s : ByteArray) (fl : List pl.Pc) (w : World) (e : Ending) (w' : World) : Prop :=
  Below w.heap.size w w' ∧ ∃ o, pl.SomeIs s fl o ∧ ((∃ x, o = some x ∧ e = .returned (.tuple #[.string (pl.bs x), .bool true])) ∨ (o = none ∧ e = .returned (.tuple #[.string ⟨#[]⟩, .bool false])))

def RdSome (vs : pl.Vals) (ps : List pl.Pc) (n E : Nat) (w1 : World) (iv : Value) (wr : World) : Prop :=
  ∃ (i : Nat) (o : List UInt8), i ≤ n ∧ iv = .int .i64 i ∧ Hid (pl.someT vs (pl.flatTo ps i) = o) ∧ Hid (o.length ≤ i * 240) ∧ Hid (IsB E E (Lib.byteCells o) wr) ∧ Hid (Below E w1 wr)

set_option maxHeartbeats 4000000 in
theorem iFillSome_any (s : ByteArray) (fl : List pl.Pc) (v : Value) (w : World) (hs : s.size ≤ maxLen) (hm : MaxI w) (hr : RPc w v fl) (hl : fl.length ≤ 1048576) (hsz : ∀ i, i < fl.length → (pl.nthQ fl i).1.size ≤ 1048576 ∧ (pl.nthQ fl i).2.size ≤ 1048576) :
    Calls Tryd.prog 14 #[.string s, v] w (SomePost s fl w) := by
  go_enter Tryd.func14, Tryd.ntmps14
  go_wp2_with fail
  refine (readFilled_any s fl v w hs hm hr hl hsz).mono ?_
  have HMX := Lib.hid hm
  clear hsz hr
  rintro e w1 ⟨hb1, hres⟩
  have HB1 := Lib.hid hb1
  clear hb1
  rcases hres with ⟨v1, m, rfl, hno⟩ | ⟨v1, ps, b, rfl, hyes, ho, hok, hlp, hvf, hbw, hmv⟩
  · have HE := Lib.hid hno
    clear hno
    go_wp2_with fail
    go_ret2
    exact ⟨HB1.out, none, .inl ⟨rfl, HE.out⟩, .inr ⟨rfl, rfl⟩⟩
  · have HE := Lib.hid hyes
    have HV := Lib.hid hvf
    have HRP := Lib.hid ho.reads
    have HK := Lib.hid hok
    have HM := Lib.hid hmv
    obtain ⟨vs, HVS⟩ : ∃ vs, Hid (pl.lookL (pl.toFL fl) = vs) := ⟨_, Lib.hid rfl⟩
    have HVL : Hid (∀ k x, vs k = some x → x.length ≤ 120) := Lib.hid (fun k x hx => by rw [← HVS.out] at hx; exact pl.validT_len (pl.vF_valid HV.out hx))
    rw [HVS.out] at HM
    obtain ⟨a0, c0, rfl⟩ := ho.reads.slice
    obtain ⟨n, HN⟩ : ∃ n, Hid (n = ps.length) := ⟨_, Lib.hid rfl⟩
    rw [← HN.out] at HRP hlp
    rw [← HN.out]
    clear hyes ho hok hvf hbw hmv
    go_wp2_with fail
    have HBI : Hid (IsB w1.heap.size w1.heap.size (Lib.byteCells []) (w1.alloc (.cells #[.pointer none, .slice none 0 0] 61))) := Lib.hid (Lib.fresh_isBuilder 61 5 w1)
    have HBA : Hid (Below w1.heap.size w1 (w1.alloc (.cells #[.pointer none, .slice none 0 0] 61))) := Lib.hid ((Below.refl _ _).alloc (Nat.le_refl _) _)
    obtain ⟨wa, HWA⟩ : ∃ x, Hid (w1.alloc (.cells #[.pointer none, .slice none 0 0] 61) = x) := ⟨_, Lib.hid rfl⟩
    rw [HWA.out] at HBI HBA ⊢
    obtain ⟨E, HEE⟩ : ∃ E, Hid (w1.heap.size = E) := ⟨_, Lib.hid rfl⟩
    rw [HEE.out] at HBI HBA ⊢
    have hwE : Hid (w.heap.size ≤ E) := Lib.hid (by rw [← HEE.out]; exact HB1.out.size)
    go_loopw [25] (fun iv wr => RdSome vs ps n E w1 iv wr) (fun iv _ => n - (intOf iv).toNat)
    case atStart => exact ⟨0, [], Nat.zero_le _, rfl, Lib.hid rfl, Lib.hid (Nat.le_refl _), HBI, HBA⟩
    case round =>
      obtain ⟨i, o, hi, rfl, HF, HOL, HBU, HB⟩ := hrel
      have hEw : E < wr.heap.size := (b_lt HBU.out).2
      have hol : o.length ≤ 28800 := by have := HOL.out; have : i * 240 ≤ 120 * 240 := Nat.mul_le_mul_right _ (by omega); omega
      by_cases hlt : i < n
      · have hBw : Below w1.heap.size w1 wr := by rw [HEE.out]; exact HB.out
        obtain ⟨b2, o2, rfl, hbw, c1, c2⟩ := HRP.out.at HN.out hBw hlt
        have hil : i < ps.length := by rw [← HN.out]; exact hlt
        have HNX := Lib.hid (pl.some_next (vs := vs) hil)
        rw [HF.out] at HNX
        have hz := HK.out.size _ (pl.nthQ_mem hil)
        obtain ⟨nm, HNM⟩ : ∃ nm, Hid ((pl.nthQ ps i).1 = nm) := ⟨_, Lib.hid rfl⟩
        obtain ⟨pt, HPT⟩ : ∃ pt, Hid ((pl.nthQ ps i).2 = pt) := ⟨_, Lib.hid rfl⟩
        rw [HNM.out] at c1 HNX hz
        rw [HPT.out] at c2 HNX hz
        obtain ⟨hz1, hz2⟩ := hz
        have HMR := Lib.hid (HM.out.below hBw (Nat.le_refl _))
        have hA : Below wr.heap.size wr (wr.alloc (.cells #[.string nm, .string pt] 63)) := (Below.refl _ _).alloc (Nat.le_refl _) _
        have HMA := Lib.hid (HMR.out.below hA (Nat.le_refl _))
        have HBA2 := Lib.hid (isB_below HBU.out hA)
        have HBB := Lib.hid (HB.out.trans (hA.mono (Nat.le_of_lt hEw)))
        have hsA := hA.size
        clear hil hBw hA hbw
        go_wp2_with fail
        refine (plainOf_any b 5 vs nm pt _ HMA.out (by unfold maxLen; omega)).mono ?_
        rintro e w2 ⟨hb2, hres⟩
        have HBU2 := Lib.hid (isB_below HBA2.out hb2)
        have HB2 := Lib.hid (HBB.out.trans (hb2.mono (by omega)))
        have hs2 := hb2.size
        have hk2 := hb2.cell (p := ⟨wr.heap.size, 0, none⟩)
        have HMX2 := Lib.hid (HMX.out.below (Nat.le_refl _) (HB1.out.trans (HB2.out.mono hwE.out)))
        clear hb2
        have k0 : w2.cell? ⟨wr.heap.size, 0, none⟩ = some (.string nm) := (hk2 (by simp)).trans (by simp)
        clear hk2
        rcases hres with ⟨x, hx, rfl⟩ | ⟨hx, rfl⟩
        · have HXX := Lib.hid (HNX.out.trans (by rw [pl.some_tok_yes hx]))
          have hxl : x.length ≤ 120 := by
            by_cases h0 : nm.size = 0
            · rw [pl.valP_plain vs pt h0] at hx; injection hx with hx; rw [← hx, pl.len_eq]; exact hz2
            · rw [pl.valP_hole vs pt h0] at hx; exact HVL.out _ _ hx
          have hxd := (pl.dblB_len x).1
          clear hx k0
          go_wp2_with fail
          refine (dblI_any (pl.bs x) w2 (by rw [pl.bs_size]; omega) HMX2.out).mono ?_
          rintro e w4 ⟨rfl, hb4⟩
          rw [pl.bs_data]
          have HBU4 := Lib.hid (isB_below HBU2.out hb4)
          have HB4 := Lib.hid (HB2.out.trans (hb4.mono (by omega)))
          have hs4 := hb4.size
          clear hb4
          go_wp2_with fail
          refine (writeString_any E E (Lib.byteCells o) (pl.bs (pl.dblB x)) w4 HBU4.out (by rw [Lib.byteCells_length, pl.bs_size]; omega) (by omega)).mono ?_
          rintro e w3 ⟨rfl, hB3, hb3, hk3, hs3⟩
          rw [cells_str2, pl.bs_data] at hB3
          have HB3 := Lib.hid (HB4.out.trans hb3)
          have HBU3 : Hid (IsB E E (Lib.byteCells (o ++ pl.dblB x)) w3) := Lib.hid (.inr hB3)
          have HOL3 : Hid ((o ++ pl.dblB x).length ≤ (i + 1) * 240) := Lib.hid (by rw [List.length_append]; have := HOL.out; omega)
          clear hB3 hb3 hk3
          go_wp2_with fail
          go_roundw
          case rel => exact ⟨i + 1, _, by omega, by go_num, HXX, HOL3, HBU3, HB3⟩
          case measure => simp [intOf]; omega
        · have HXX := Lib.hid (HNX.out.trans (by rw [pl.some_tok_no hx]))
          clear hx
          have hnz : ((⟨#[123]⟩ : ByteArray) ++ nm ++ (⟨#[125]⟩ : ByteArray)).size ≤ 10 := by
            rw [ByteArray.size_append, ByteArray.size_append]; show 1 + nm.size + 1 ≤ 10; omega
          have hnd : Hid (((⟨#[123]⟩ : ByteArray) ++ nm ++ (⟨#[125]⟩ : ByteArray)).data.toList = 123 :: (nm.data.toList ++ [125])) := Lib.hid (by
            rw [pl.data_app, pl.data_app]; rfl)
          go_wp2_with fail
          refine (writeString_any E E (Lib.byteCells o) _ w2 HBU2.out (by rw [Lib.byteCells_length]; omega) (by omega)).mono ?_
          rintro e w3 ⟨rfl, hB3, hb3, hk3, hs3⟩
          rw [cells_str2, hnd.out] at hB3
          have HB3 := Lib.hid (HB2.out.trans hb3)
          have HBU3 : Hid (IsB E E (Lib.byteCells (o ++ 123 :: (nm.data.toList ++ [125]))) w3) := Lib.hid (.inr hB3)
          have HOL3 : Hid ((o ++ 123 :: (nm.data.toList ++ [125])).length ≤ (i + 1) * 240) := Lib.hid (by
            rw [List.length_append, List.length_cons, List.length_append, pl.len_eq, List.length_singleton]; have := HOL.out; omega)
          clear hB3 hb3 hk3
          go_wp2_with fail
          go_roundw
          case rel => exact ⟨i + 1, _, by omega, by go_num, HXX, HOL3, HBU3, HB3⟩
          case measure => simp [intOf]; omega
      · obtain rfl : i = n := by omega
        have HF2 : Hid (pl.someT vs (pl.flatP ps) = o) := Lib.hid (by rw [← pl.flatTo_all, ← HN.out]; exact HF.out)
        go_wp2_with fail
        refine (textOf_any E E o wr HBU.out (by omega) (by omega)).mono ?_
        rintro e w2 ⟨hb2, hres⟩
        have HB2 := Lib.hid (HB1.out.trans ((HB.out.trans hb2).mono hwE.out))
        clear hb2
        rcases hres with ⟨hv, rfl⟩ | ⟨hv, rfl⟩
        · have HVV := Lib.hid hv
          clear hv
          go_wp2_with fail
          go_ret2
          refine ⟨HB2.out, some o, .inr ⟨HV.out, _, HE.out, .inl ?_⟩, .inl ⟨o, rfl, rfl⟩⟩
          rw [HVS.out, HF2.out]; exact ⟨HVV.out, rfl⟩
        · have HVV := Lib.hid hv
          clear hv
          go_wp2_with fail
          go_ret2
          refine ⟨HB2.out, none, .inr ⟨HV.out, _, HE.out, .inr ?_⟩, .inr ⟨rfl, rfl⟩⟩
          rw [HVS.out, HF2.out]; exact ⟨HVV.out, rfl⟩

end Go.Proofs.YtadlelcckalcoaaDoor
