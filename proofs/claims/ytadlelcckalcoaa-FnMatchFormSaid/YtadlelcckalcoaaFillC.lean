/- Contracts: valueOf, validFills of the model. -/
import Derived.Test.YtadlelcckalcoaaPlainFl
import Derived.Test.YtadlelcckalcoaaHoles
import Derived.BigQuiet
namespace Go.Proofs.Ytadlelcckalcoaa
open Go.RowKit
set_option maxRecDepth 100000
set_option linter.unusedVariables false
namespace pl
theorem look_miss {fl : List Pc} {k : Nat} {m : Nm} (hk : k < fl.length) (hl : lookL (toFL (fl.take k)) m = none) (hne : (nthQ fl k).1.data.toList ≠ m) : lookL (toFL (fl.take (k + 1))) m = none := by
  rw [toFL_succ hk, lookL_append, hl, lookL_one, if_neg hne]; rfl
theorem look_hit {fl : List Pc} {k : Nat} {m : Nm} (hk : k < fl.length) (hl : lookL (toFL (fl.take k)) m = none) (he : (nthQ fl k).1.data.toList = m) : lookL (toFL fl) m = some (nthQ fl k).2.data.toList := by
  have h1 : toFL fl = toFL (fl.take (k + 1)) ++ toFL (fl.drop (k + 1)) := by
    unfold toFL; rw [← List.map_append, List.take_append_drop]
  rw [h1, lookL_append, toFL_succ hk, lookL_append, hl, lookL_one, if_pos he]; rfl
theorem look_dup {fl : List Pc} {i j : Nat} (hi : i < fl.length) (hj : j < i) (he : (nthQ fl j).1 = (nthQ fl i).1) : ¬ lookL (toFL (fl.take i)) (nthQ fl i).1.data.toList = none := by
  rw [lookL_none_iff]
  intro h
  apply h
  unfold toFL
  rw [List.map_map, List.mem_map]
  refine ⟨nthQ fl j, ?_, by simp [he]⟩
  rw [nthQ_eq (by omega)]
  exact List.mem_take_iff_getElem.2 ⟨j, by omega, rfl⟩
theorem data_ne {x y : ByteArray} (h : ¬ x = y) : x.data.toList ≠ y.data.toList := fun e => h (by rw [← bs_self x, ← bs_self y, e])
end pl

def ValOf (fl : List pl.Pc) (n : ByteArray) (e : Ending) : Prop :=
  (∃ x, pl.lookL (pl.toFL fl) n.data.toList = some x ∧ e = .returned (.tuple #[.string (pl.bs x), .bool true])) ∨ (pl.lookL (pl.toFL fl) n.data.toList = none ∧ e = .returned (.tuple #[.string ⟨#[]⟩, .bool false]))

set_option maxHeartbeats 1000000 in
theorem svalueOf_any (fl : List pl.Pc) (v : Value) (m : ByteArray) (w : World) (hr : RPc w v fl) (hl : fl.length ≤ 1048576) :
    Calls Try.prog 73 #[v, .string m] w fun e w' => ValOf fl m e ∧ w' = w := by
  have HR := Lib.hid hr
  obtain ⟨a0, c0, rfl⟩ := hr.slice
  obtain ⟨n, HN⟩ : ∃ n, Hid (n = fl.length) := ⟨_, Lib.hid rfl⟩
  rw [← HN.out] at HR hl ⊢
  clear hr
  go_enter Try.func73, Try.ntmps73
  go_wp2_with fail
  go_loop [6] (fun iv => ∃ i : Nat, i ≤ n ∧ iv = .int .i64 i ∧ Hid (pl.lookL (pl.toFL (fl.take i)) m.data.toList = none)) (fun iv => n - (intOf iv).toNat)
  case atStart => exact ⟨0, Nat.zero_le _, rfl, Lib.hid rfl⟩
  case round =>
    obtain ⟨i, hi, rfl, HT⟩ := hrel
    by_cases hlt : i < n
    · have hil : i < fl.length := by rw [← HN.out]; exact hlt
      obtain ⟨b, o, rfl, hbw, c1, c2⟩ := HR.out.at HN.out (Below.refl _ _) hlt
      have HMI := Lib.hid (pl.look_miss hil HT.out)
      have HHI := Lib.hid (pl.look_hit hil HT.out)
      obtain ⟨nm, HNM⟩ : ∃ nm, Hid ((pl.nthQ fl i).1 = nm) := ⟨_, Lib.hid rfl⟩
      obtain ⟨pt, HPT⟩ : ∃ pt, Hid ((pl.nthQ fl i).2 = pt) := ⟨_, Lib.hid rfl⟩
      rw [HNM.out] at c1 HMI HHI
      rw [HPT.out] at c2 HHI
      clear hil hbw
      by_cases e : nm = m
      · have hbe : (nm.toList == m.toList) = true := by rw [e]; simp
        have HE := Lib.hid (HHI.out (by rw [e]))
        clear e
        go_wp2_with fail
        go_ret2
        exact ⟨.inl ⟨_, HE.out, by rw [pl.bs_self]; rfl⟩, rfl⟩
      · have hbe : (nm.toList == m.toList) = false := toList_ne e
        have HE := Lib.hid (HMI.out (pl.data_ne e))
        clear e
        go_wp2
        go_round
        case rel => exact ⟨i + 1, by omega, by go_num, HE⟩
        case measure => simp [intOf]; omega
    · obtain rfl : i = n := by omega
      have HE : Hid (pl.lookL (pl.toFL fl) m.data.toList = none) := Lib.hid (by have := HT.out; rwa [HN.out, List.take_length] at this)
      go_wp2_with fail
      go_ret2
      exact ⟨.inr ⟨HE.out, rfl⟩, rfl⟩

def VFPost (fl : List pl.Pc) (w : World) (e : Ending) (w' : World) : Prop :=
  Below w.heap.size w w' ∧ ((pl.vF fl ∧ e = .returned (.bool true)) ∨ (¬ pl.vF fl ∧ e = .returned (.bool false)))
def RdVF (fl : List pl.Pc) (n : Nat) (w : World) (iv : Value) (wr : World) : Prop :=
  ∃ i : Nat, i ≤ n ∧ iv = .int .i64 i ∧ Hid (pl.goodTo fl i) ∧ Hid (Below w.heap.size w wr)
def RdVF2 (fl : List pl.Pc) (i : Nat) (m : ByteArray) (w : World) (jv : Value) (wr : World) : Prop :=
  ∃ j : Nat, j ≤ i ∧ jv = .int .i64 j ∧ Hid (pl.lookL (pl.toFL (fl.take j)) m.data.toList = none) ∧ Hid (Below w.heap.size w wr)

set_option maxHeartbeats 4000000 in
theorem svalidFills_any (fl : List pl.Pc) (v : Value) (w : World) (hr : RPc w v fl) (hl : fl.length ≤ 1048576) (hsz : ∀ i, i < fl.length → (pl.nthQ fl i).1.size ≤ 1048576 ∧ (pl.nthQ fl i).2.size ≤ 1048576) :
    Calls Try.prog 72 #[v] w (VFPost fl w) := by
  have HR := Lib.hid hr
  have HSZ := Lib.hid hsz
  obtain ⟨a0, c0, rfl⟩ := hr.slice
  obtain ⟨n, HN⟩ : ∃ n, Hid (n = fl.length) := ⟨_, Lib.hid rfl⟩
  rw [← HN.out] at HR hl ⊢
  clear hr hsz
  go_enter Try.func72, Try.ntmps72
  go_wp2_with fail
  go_loopw [3] (fun iv wr => RdVF fl n w iv wr) (fun iv _ => n - (intOf iv).toNat)
  case atStart => exact ⟨0, Nat.zero_le _, rfl, Lib.hid (pl.goodTo_zero fl), Lib.hid (Below.refl _ _)⟩
  case round =>
    obtain ⟨i, hi, rfl, HG, HB⟩ := hrel
    by_cases hlt : i < n
    · obtain ⟨b, o, rfl, hbw, c1, c2⟩ := HR.out.at HN.out HB.out hlt
      have hil : i < fl.length := by rw [← HN.out]; exact hlt
      obtain ⟨hz1, hz2⟩ := HSZ.out i hil
      have HNG := Lib.hid (fun hg => pl.vF_no hil hg)
      have HDU := Lib.hid (fun (j : Nat) hj he => pl.look_dup (fl := fl) (j := j) hil hj he)
      have HGA : Hid (pl.goodAt fl i ↔ (pl.nameB (pl.nthQ fl i).1.data.toList = true ∧ pl.validT (pl.nthQ fl i).2.data.toList = true ∧ pl.lookL (pl.toFL (fl.take i)) (pl.nthQ fl i).1.data.toList = none)) := Lib.hid Iff.rfl
      obtain ⟨nm, HNM⟩ : ∃ nm, Hid ((pl.nthQ fl i).1 = nm) := ⟨_, Lib.hid rfl⟩
      obtain ⟨pt, HPT⟩ : ∃ pt, Hid ((pl.nthQ fl i).2 = pt) := ⟨_, Lib.hid rfl⟩
      rw [HNM.out] at c1 HGA hz1 HDU
      rw [HPT.out] at c2 HGA hz2
      have hbr : b < wr.heap.size := Nat.lt_of_lt_of_le hbw HB.out.size
      cases hnm : pl.nameB nm.data.toList with
      | false =>
        have HE : Hid (¬ pl.vF fl) := Lib.hid (HNG.out (fun h => by have := (HGA.out.1 h).1; rw [hnm] at this; cases this))
        have HNB := Lib.hid hnm
        clear hnm hil
        go_wp2_with fail
        refine (sisName_any nm _ (by unfold maxLen; omega)).mono ?_
        rintro e w2 ⟨rfl, rfl⟩
        rw [HNB.out]
        go_wp2_with fail
        go_ret
        exact ⟨HB.out, .inr ⟨HE.out, rfl⟩⟩
      | true =>
        have HNB := Lib.hid hnm
        clear hnm
        cases hvt : pl.validT pt.data.toList with
        | false =>
          have HE : Hid (¬ pl.vF fl) := Lib.hid (HNG.out (fun h => by have := (HGA.out.1 h).2.1; rw [hvt] at this; cases this))
          have HVT := Lib.hid hvt
          clear hvt hil
          go_wp2_with fail
          refine (sisName_any nm _ (by unfold maxLen; omega)).mono ?_
          rintro e w2 ⟨rfl, rfl⟩
          rw [HNB.out]
          go_wp2_with fail
          refine (svalidText_any pt _ (by unfold maxLen; omega)).mono ?_
          rintro e w2 ⟨rfl, rfl⟩
          rw [HVT.out]
          go_wp2_with fail
          go_ret
          exact ⟨HB.out, .inr ⟨HE.out, rfl⟩⟩
        | true =>
          have HVT := Lib.hid hvt
          clear hvt
          go_wp2_with fail
          refine (sisName_any nm _ (by unfold maxLen; omega)).mono ?_
          rintro e w2 ⟨rfl, rfl⟩
          rw [HNB.out]
          go_wp2_with fail
          refine (svalidText_any pt _ (by unfold maxLen; omega)).mono ?_
          rintro e w2 ⟨rfl, rfl⟩
          rw [HVT.out]
          go_wp2_with fail
          clear c1 c2 hbr
          obtain ⟨w0, HW0⟩ : ∃ w0, Hid (wr = w0) := ⟨_, Lib.hid rfl⟩
          rw [HW0.out] at HB ⊢
          go_loopw [4] (fun jv wr => RdVF2 fl i nm w jv wr) (fun jv _ => i - (intOf jv).toNat)
          case atStart => exact ⟨0, Nat.zero_le _, rfl, Lib.hid rfl, HB⟩
          case round =>
            obtain ⟨j, hj, rfl, HL, HBJ⟩ := hrel
            by_cases hjl : j < i
            · obtain ⟨b', o', hb', hbw', d1, d2⟩ := HR.out.at HN.out HBJ.out (show j < n by omega)
              obtain ⟨b'', o'', hb'', hbw'', c1, c2⟩ := HR.out.at HN.out HBJ.out hlt
              injection hb' with hb'; injection hb' with e1 e2; subst e1; subst e2
              injection hb'' with hb''; injection hb'' with e1 e2; subst e1; subst e2
              have hjn : j < n := by omega
              have hjl2 : j < fl.length := by rw [← HN.out]; exact hjn
              have HMI := Lib.hid (pl.look_miss hjl2 HL.out)
              have HDJ := Lib.hid (HDU.out j hjl)
              rw [HNM.out] at c1
              obtain ⟨nj, HNJ⟩ : ∃ nj, Hid ((pl.nthQ fl j).1 = nj) := ⟨_, Lib.hid rfl⟩
              rw [HNJ.out] at d1 HMI HDJ
              clear hjl2 hil d2 c2
              by_cases e : nj = nm
              · have hbe : (nj.toList == nm.toList) = true := by rw [e]; simp
                have HE : Hid (¬ pl.vF fl) := Lib.hid (HNG.out (fun h => HDJ.out e (HGA.out.1 h).2.2))
                clear e
                go_wp2_with fail
                go_quiet (fail)
                have HB2 : Hid (Below w.heap.size w (wr.drewN nq)) := Lib.hid (HBJ.out.trans below_drewN)
                go_wp2_with fail
                go_ret
                exact ⟨HB2.out, .inr ⟨HE.out, rfl⟩⟩
              · have hbe : (nj.toList == nm.toList) = false := toList_ne e
                have HE := Lib.hid (HMI.out (pl.data_ne e))
                clear e
                go_wp2_with fail
                go_quiet (fail)
                have HB2 : Hid (Below w.heap.size w (wr.drewN nq)) := Lib.hid (HBJ.out.trans below_drewN)
                go_wp2
                go_roundw
                case rel => exact ⟨j + 1, by omega, by go_num, HE, HB2⟩
                case measure => simp [intOf]; omega
            · obtain rfl : j = i := by omega
              have HGN := Lib.hid (pl.goodTo_next HG.out (HGA.out.2 ⟨HNB.out, HVT.out, HL.out⟩))
              go_wp2_with fail
              go_roundw
              case rel => exact ⟨j + 1, by omega, by go_num, HGN, HBJ⟩
              case measure => simp [intOf]; omega
    · obtain rfl : i = n := by omega
      by_cases h5 : i ≤ 5
      · have h5i : (i : Int) ≤ 5 := by omega
        have HE : Hid (pl.vF fl) := Lib.hid ⟨by rw [← HN.out]; exact h5, by rw [← HN.out]; exact HG.out⟩
        go_wp2_with fail
        go_ret
        exact ⟨HB.out, .inl ⟨HE.out, rfl⟩⟩
      · have h5i : ¬ (i : Int) ≤ 5 := by omega
        have HE : Hid (¬ pl.vF fl) := Lib.hid (fun h => h5 (by rw [HN.out]; exact h.1))
        go_wp2_with fail
        go_ret
        exact ⟨HB.out, .inr ⟨HE.out, rfl⟩⟩
end Go.Proofs.Ytadlelcckalcoaa
