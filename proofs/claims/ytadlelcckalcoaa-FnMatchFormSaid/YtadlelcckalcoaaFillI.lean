/- Contract: FillForm of the program. -/
import Derived.Test.YtadlelcckalcoaaFilled
namespace Go.Proofs.Ytadlelcckalcoaa
open Go.RowKit Go.Maps
set_option maxRecDepth 100000
set_option linter.unusedVariables false

def FillPost (s : ByteArray) (fl : List pl.Pc) (w : World) (e : Ending) (w' : World) : Prop :=
  Below w.heap.size w w' ∧ ∃ o, pl.FillIs s fl o ∧ ((∃ x, o = some x ∧ e = .returned (.tuple #[.string (pl.bs x), .bool true])) ∨ (o = none ∧ e = .returned (.tuple #[.string ⟨#[]⟩, .bool false])))

theorem cells_str2 (o : List UInt8) (x : ByteArray) : Lib.byteCells o ++ Lib.strCells x = Lib.byteCells (o ++ x.data.toList) := by
  rw [Lib.strCells_eq, Lib.byteCells_append]

def RdFill (vs : pl.Vals) (ps : List pl.Pc) (n E : Nat) (w1 : World) (iv : Value) (wr : World) : Prop :=
  ∃ (i : Nat) (o : List UInt8), i ≤ n ∧ iv = .int .i64 i ∧ Hid (pl.fillT vs (pl.flatTo ps i) = some o) ∧ Hid (o.length ≤ i * 120) ∧ Hid (IsB E E (Lib.byteCells o) wr) ∧ Hid (Below E w1 wr)

set_option maxHeartbeats 4000000 in
theorem iFillForm_any (s : ByteArray) (fl : List pl.Pc) (v : Value) (w : World) (hs : s.size ≤ maxLen) (hm : MaxI w) (hr : RPc w v fl) (hl : fl.length ≤ 1048576) (hsz : ∀ i, i < fl.length → (pl.nthQ fl i).1.size ≤ 1048576 ∧ (pl.nthQ fl i).2.size ≤ 1048576) :
    Calls Try.prog 21 #[.string s, v] w (FillPost s fl w) := by
  go_enter Try.func21, Try.ntmps21
  go_wp2_with fail
  refine (readFilled_any s fl v w hs hm hr hl hsz).mono ?_
  clear hsz hr
  rintro e w1 ⟨hb1, hres⟩
  have HB1 := Lib.hid hb1
  clear hb1
  rcases hres with ⟨v1, m, rfl, hno⟩ | ⟨v1, ps, b, rfl, hyes, ho, hok, hlp, hvf, hbw, hmv⟩
  · have HE := Lib.hid hno
    clear hno
    go_wp2_with fail
    go_ret2
    exact ⟨HB1.out, none, .inl ⟨rfl, HE.out⟩, .inr ⟨rfl, rfl⟩⟩
  · have HE := Lib.hid hyes
    have HV := Lib.hid hvf
    have HRP := Lib.hid ho.reads
    have HK := Lib.hid hok
    have HM := Lib.hid hmv
    obtain ⟨vs, HVS⟩ : ∃ vs, Hid (pl.lookL (pl.toFL fl) = vs) := ⟨_, Lib.hid rfl⟩
    have HVL : Hid (∀ k x, vs k = some x → x.length ≤ 120) := Lib.hid (fun k x hx => by rw [← HVS.out] at hx; exact pl.validT_len (pl.vF_valid HV.out hx))
    rw [HVS.out] at HM
    obtain ⟨a0, c0, rfl⟩ := ho.reads.slice
    obtain ⟨n, HN⟩ : ∃ n, Hid (n = ps.length) := ⟨_, Lib.hid rfl⟩
    rw [← HN.out] at HRP hlp
    rw [← HN.out]
    clear hyes ho hok hvf hbw hmv
    go_wp2_with fail
    have HBI : Hid (IsB w1.heap.size w1.heap.size (Lib.byteCells []) (w1.alloc (.cells #[.pointer none, .slice none 0 0] 95))) := Lib.hid (Lib.fresh_isBuilder 95 5 w1)
    have HBA : Hid (Below w1.heap.size w1 (w1.alloc (.cells #[.pointer none, .slice none 0 0] 95))) := Lib.hid ((Below.refl _ _).alloc (Nat.le_refl _) _)
    obtain ⟨wa, HWA⟩ : ∃ x, Hid (w1.alloc (.cells #[.pointer none, .slice none 0 0] 95) = x) := ⟨_, Lib.hid rfl⟩
    rw [HWA.out] at HBI HBA ⊢
    obtain ⟨E, HEE⟩ : ∃ E, Hid (w1.heap.size = E) := ⟨_, Lib.hid rfl⟩
    rw [HEE.out] at HBI HBA ⊢
    have hwE : Hid (w.heap.size ≤ E) := Lib.hid (by rw [← HEE.out]; exact HB1.out.size)
    go_loopw [25] (fun iv wr => RdFill vs ps n E w1 iv wr) (fun iv _ => n - (intOf iv).toNat)
    case atStart => exact ⟨0, [], Nat.zero_le _, rfl, Lib.hid rfl, Lib.hid (Nat.le_refl _), HBI, HBA⟩
    case round =>
      obtain ⟨i, o, hi, rfl, HF, HOL, HBU, HB⟩ := hrel
      have hEw : E < wr.heap.size := (b_lt HBU.out).2
      have hol : o.length ≤ 14400 := by have := HOL.out; have : i * 120 ≤ 120 * 120 := Nat.mul_le_mul_right _ (by omega); omega
      by_cases hlt : i < n
      · have hBw : Below w1.heap.size w1 wr := by rw [HEE.out]; exact HB.out
        obtain ⟨b2, o2, rfl, hbw, c1, c2⟩ := HRP.out.at HN.out hBw hlt
        have hil : i < ps.length := by rw [← HN.out]; exact hlt
        have HNX := Lib.hid (fun x => pl.fill_next (v := x) hil HF.out)
        have HST := Lib.hid (pl.fill_stop hil HF.out)
        have hz := HK.out.size _ (pl.nthQ_mem hil)
        obtain ⟨nm, HNM⟩ : ∃ nm, Hid ((pl.nthQ ps i).1 = nm) := ⟨_, Lib.hid rfl⟩
        obtain ⟨pt, HPT⟩ : ∃ pt, Hid ((pl.nthQ ps i).2 = pt) := ⟨_, Lib.hid rfl⟩
        rw [HNM.out] at c1 HNX HST hz
        rw [HPT.out] at c2 HNX HST hz
        obtain ⟨hz1, hz2⟩ := hz
        have HMR := Lib.hid (HM.out.below hBw (Nat.le_refl _))
        have hA : Below wr.heap.size wr (wr.alloc (.cells #[.string nm, .string pt] 97)) := (Below.refl _ _).alloc (Nat.le_refl _) _
        have HMA := Lib.hid (HMR.out.below hA (Nat.le_refl _))
        have HBA2 := Lib.hid (isB_below HBU.out hA)
        have HBB := Lib.hid (HB.out.trans (hA.mono (Nat.le_of_lt hEw)))
        have hsA := hA.size
        clear hil hBw hA hbw
        go_wp2_with fail
        refine (plainOf_any b 5 vs nm pt _ HMA.out (by unfold maxLen; omega)).mono ?_
        rintro e w2 ⟨hb2, hres⟩
        have HBU2 := Lib.hid (isB_below HBA2.out hb2)
        have HB2 := Lib.hid (HBB.out.trans (hb2.mono (by omega)))
        have hs2 := hb2.size
        clear hb2
        rcases hres with ⟨x, hx, rfl⟩ | ⟨hx, rfl⟩
        · have HXX := Lib.hid (HNX.out x hx)
          have hxl : x.length ≤ 120 := by
            by_cases h0 : nm.size = 0
            · rw [pl.valP_plain vs pt h0] at hx; injection hx with hx; rw [← hx, pl.len_eq]; exact hz2
            · rw [pl.valP_hole vs pt h0] at hx; exact HVL.out _ _ hx
          clear hx
          go_wp2_with fail
          refine (writeString_any E E (Lib.byteCells o) (pl.bs x) w2 HBU2.out (by rw [Lib.byteCells_length, pl.bs_size]; omega) (by omega)).mono ?_
          rintro e w3 ⟨rfl, hB3, hb3, hk3, hs3⟩
          rw [cells_str2, pl.bs_data] at hB3
          have HB3 := Lib.hid (HB2.out.trans hb3)
          have HBU3 : Hid (IsB E E (Lib.byteCells (o ++ x)) w3) := Lib.hid (.inr hB3)
          have HOL3 : Hid ((o ++ x).length ≤ (i + 1) * 120) := Lib.hid (by rw [List.length_append]; have := HOL.out; omega)
          clear hB3 hb3 hk3
          go_wp2_with fail
          go_roundw
          case rel => exact ⟨i + 1, _, by omega, by go_num, HXX, HOL3, HBU3, HB3⟩
          case measure => simp [intOf]; omega
        · have HXX := Lib.hid (HST.out hx)
          clear hx
          go_wp2_with fail
          go_ret2
          refine ⟨HB1.out.trans ((HB2.out).mono hwE.out), none, .inr ⟨HV.out, _, HE.out, .inl ⟨?_, rfl⟩⟩, .inr ⟨rfl, rfl⟩⟩
          rw [HVS.out]; exact HXX.out
      · obtain rfl : i = n := by omega
        have HF2 : Hid (pl.fillT vs (pl.flatP ps) = some o) := Lib.hid (by rw [← pl.flatTo_all, ← HN.out]; exact HF.out)
        go_wp2_with fail
        refine (textOf_any E E o wr HBU.out (by omega) (by omega)).mono ?_
        rintro e w2 ⟨hb2, hres⟩
        have HB2 := Lib.hid (HB1.out.trans ((HB.out.trans hb2).mono hwE.out))
        clear hb2
        rcases hres with ⟨hv, rfl⟩ | ⟨hv, rfl⟩
        · have HVV := Lib.hid hv
          clear hv
          go_wp2_with fail
          go_ret2
          refine ⟨HB2.out, some o, .inr ⟨HV.out, _, HE.out, .inr ⟨o, ?_, .inl ⟨HVV.out, rfl⟩⟩⟩, .inl ⟨o, rfl, rfl⟩⟩
          rw [HVS.out]; exact HF2.out
        · have HVV := Lib.hid hv
          clear hv
          go_wp2_with fail
          go_ret2
          refine ⟨HB2.out, none, .inr ⟨HV.out, _, HE.out, .inr ⟨o, ?_, .inr ⟨HVV.out, rfl⟩⟩⟩, .inr ⟨rfl, rfl⟩⟩
          rw [HVS.out]; exact HF2.out
end Go.Proofs.Ytadlelcckalcoaa
