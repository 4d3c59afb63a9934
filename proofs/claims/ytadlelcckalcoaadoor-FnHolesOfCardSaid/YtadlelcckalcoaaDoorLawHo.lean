/- The walk of FnHolesOf. -/
import Derived.Test.YtadlelcckalcoaaDoorPlainFt
import Derived.Test.YtadlelcckalcoaaDoorDrawSf
import Derived.Test.YtadlelcckalcoaaDoorFillI
import Derived.Test.YtadlelcckalcoaaDoorVForm
import Derived.Test.YtadlelcckalcoaaDoorMaxI
import Derived.BigQuiet
namespace Go.Proofs.YtadlelcckalcoaaDoor
open Go.RowKit
set_option maxRecDepth 100000
set_option linter.unusedVariables false

theorem infoFi2 : (Tryd.prog.info? 33).map (fun i => (i.zero, i.size, i.bytes)) = some (some (.agg #[.string ByteArray.empty, .string ByteArray.empty]), 2, 32) := by kernel_rfl
theorem equalTexts_self (l : List ByteArray) (va vb : Value) (w : World) (hA : RStrs w va l) (hB : RStrs w vb l) (hl : l.length ≤ 2000000) :
    Calls Tryd.prog 17 #[va, vb] w fun e w' => e = .returned (.bool true) ∧ Below w.heap.size w w' :=
  (equalTexts_any l l va vb w hA hB hl).mono fun e w' ⟨h1, h2⟩ => ⟨by rw [h1]; simp, h2⟩

theorem dHolesOf_any (a : Option Addr) (len cap : Nat) (zs : List Int) (w : World) (hr : IsRow .u8 w a len cap zs) :
    Calls Tryd.prog 15 #[.slice a len cap] w fun e w' => ∃ s, e = .returned (.string s) ∧ s.size ≤ 54 ∧ Below w.heap.size w w' := by
  go_enter Tryd.func15, Tryd.ntmps15
  go_wp2_with fail
  refine (newReader_any a len cap zs _ hr).mono ?_
  rintro e w1 ⟨n, c, rfl, hR, hb1⟩
  go_wp2_with fail
  refine (someForm_any _ _ n c 0 a _ hR (by omega)).mono ?_
  rintro e w2 ⟨s, rfl, hs, p', _, _, hg⟩
  go_wp2_with fail
  go_ret
  exact ⟨s, rfl, hs, hb1.grown hg hb1.size (fun k hk => by cases hk; exact Nat.le_refl _)⟩

/-- v owns these fills -/
def OFi (B : Nat) (w : World) (v : Value) (ps : List pl.Pc) : Prop := OPr 33 B w v ps.length (pcV ps)
theorem OFi.below {B : Nat} {w w' : World} {v : Value} {ps : List pl.Pc} (h : OFi B w v ps) (hb : Below w.heap.size w w') : OFi B w' v ps := pr_below h hb
theorem OFi.push {B : Nat} {w : World} {v : Value} {ps : List pl.Pc} {n p : ByteArray} (h : w.ownsRow B 33 2 v (ps.length + 1) (pairC (pcV ps) ++ [.string n, .string p])) : OFi B w v (ps ++ [(n, p)]) := by
  unfold OFi OPr
  rw [List.length_append, List.length_singleton]
  have : pcV (ps ++ [(n, p)]) = pcV ps ++ [(.string n, .string p)] := by simp [pcV]
  rw [this, pairC_append]
  exact h
theorem OFi.reads {B : Nat} {w : World} {v : Value} {ps : List pl.Pc} (h : OFi B w v ps) : RPc w v ps := by
  have hw := h
  rcases h.2 with ⟨hv, hn⟩ | ⟨g, cap, cur, hv, hB, hg, hle, hm, hs, htake⟩
  · exact .inl ⟨List.length_eq_zero_iff.1 hn, none, 0, hv⟩
  · rcases Nat.eq_zero_or_pos ps.length with h0 | h0
    · exact .inl ⟨List.length_eq_zero_iff.1 h0, _, cap, by rw [hv, h0]⟩
    · refine .inr ⟨h0, g, 0, cap, hv, (Array.getElem?_eq_some_iff.1 hg).1, fun i hi => ?_⟩
      unfold OFi at hw
      rw [hv] at hw
      obtain ⟨h1, h2, _, _⟩ := pr_cells hw hi
      rw [pcV_nth hi] at h1 h2
      rw [Nat.zero_add]
      exact ⟨h1, h2⟩
theorem pl.bare_next {N : List ByteArray} {k : Nat} (h : k < N.length) : pl.bareF (N.take (k + 1)) = pl.bareF (N.take k) ++ [(nth N k, ⟨#[]⟩)] := by
  unfold pl.bareF
  rw [List.take_succ_eq_append_getElem h, List.map_append, nth_eq h]; rfl
theorem pl.bare_len (N : List ByteArray) : (pl.bareF N).length = N.length := by simp [pl.bareF]

def RdHo (N : List ByteArray) (n E : Nat) (w : World) (fv iv : Value) (wr : World) : Prop :=
  ∃ i : Nat, i ≤ n ∧ iv = .int .i64 i ∧ Hid (OFi E wr fv (pl.bareF (N.take i))) ∧ Hid (Below E w wr)
def RdHo2 (i E : Nat) (w : World) (fs : List pl.Pc) (fv : Value) (jv : Value) (wr : World) : Prop :=
  ∃ j : Nat, j ≤ i ∧ jv = .int .i64 j ∧ Hid (OFi E wr fv fs) ∧ Hid (Below E w wr)

set_option maxHeartbeats 8000000 in
theorem fnHolesOf_walk (a : Option Addr) (len cap : Nat) (zs : List Int) (w : World) (hr : IsRow .u8 w a len cap zs) (hmx : MaxI w) (hex : ErrI w) :
    Calls Tryd.prog 4 #[.slice a len cap] w fun e w' => e = .returned (.bool true) ∧ Below w.heap.size w w' := by
  obtain ⟨i0, hi, hz0, hz1, hz2⟩ := info_parts infoFi2
  have hlen := row_len hr
  have HMX := Lib.hid hmx
  have HEX := Lib.hid hex
  clear hmx hex
  by_cases hb : 1048576 < len
  · go_enter Tryd.func4, Tryd.ntmps4
    go_wp2
    go_ret
    exact ⟨rfl, Below.refl _ _⟩
  · go_enter Tryd.func4, Tryd.ntmps4
    go_wp2_with fail
    refine (dHolesOf_any a len cap zs _ hr).mono ?_
    rintro e w1 ⟨s, rfl, hs, hb1⟩
    have HB1 := Lib.hid hb1
    clear hb1
    have h5 := Lib.hid (pl.holesR_len s)
    obtain ⟨N, HNN⟩ : ∃ N, Hid (pl.holesR s = N) := ⟨_, Lib.hid rfl⟩
    rw [HNN.out] at h5
    go_wp2_with fail
    refine (iHolesOf_any s _ (by unfold maxLen; omega) (HMX.out.below (Nat.le_refl _) HB1.out)).mono ?_
    rintro e w2 ⟨v, rfl, hv, hb2⟩
    rw [HNN.out] at hv
    have HV2 := Lib.hid hv.reads
    have HB2 := Lib.hid (HB1.out.trans (hb2.mono HB1.out.size))
    clear hb2 hv
    go_wp2_with fail
    refine (sHolesOf_any s _ (by omega)).mono ?_
    rintro e w3 ⟨u, rfl, hu, hb3⟩
    rw [HNN.out] at hu
    have HV3 := Lib.hid (HV2.out.below (Nat.le_refl _) hb3)
    have HU3 := Lib.hid hu.reads
    have HB3 := Lib.hid (HB2.out.trans (hb3.mono HB2.out.size))
    clear hb3 hu
    go_wp2_with fail
    refine (equalTexts_self N v u _ HV3.out HU3.out (by have := h5.out; omega)).mono ?_
    rintro e w4 ⟨rfl, hb4⟩
    have HV4 := Lib.hid (HV3.out.below (Nat.le_refl _) hb4)
    have HB4 := Lib.hid (HB3.out.trans (hb4.mono HB3.out.size))
    clear hb4
    go_wp2_with fail
    refine (iValidForm_any s _ (by unfold maxLen; omega) (HMX.out.below (Nat.le_refl _) HB4.out) (HEX.out.below (Nat.le_refl _) HB4.out)).mono ?_
    rintro e w5 ⟨rfl, hb5⟩
    have HV5 := Lib.hid (HV4.out.below (Nat.le_refl _) hb5)
    have HB5 := Lib.hid (HB4.out.trans (hb5.mono HB4.out.size))
    clear hb5
    cases hf : pl.formB s with
    | false =>
      clear hf
      go_wp2_with fail
      refine (sHolesOf_any s _ (by omega)).mono ?_
      rintro e w6 ⟨u6, rfl, hu, hb6⟩
      rw [HNN.out] at hu
      have HV6 := Lib.hid (HV5.out.below (Nat.le_refl _) hb6)
      have HU6 := Lib.hid hu.reads
      have HB6 := Lib.hid (HB5.out.trans (hb6.mono HB5.out.size))
      clear hb6 hu
      go_wp2_with fail
      refine (equalTexts_self N v u6 _ HV6.out HU6.out (by have := h5.out; omega)).mono ?_
      rintro e w7 ⟨rfl, hb7⟩
      have HB7 := Lib.hid (HB6.out.trans (hb7.mono HB6.out.size))
      clear hb7
      go_wp2_with fail
      go_ret
      exact ⟨rfl, HB7.out⟩
    | true =>
      obtain ⟨ts, hts⟩ := Option.isSome_iff_exists.1 (show (pl.formT s.data.toList).isSome = true from hf)
      obtain ⟨x, hx⟩ := pl.holes_fill hts
      have HX := Lib.hid hx
      have HNE := Lib.hid (fun (i j : Nat) hj hi => pl.holes_ne (i := i) (j := j) hts hj hi)
      rw [HNN.out] at HX HNE
      clear hf hts hx
      obtain ⟨a0, c0, rfl⟩ := HV5.out.slice
      obtain ⟨n, HN⟩ : ∃ n, Hid (n = N.length) := ⟨_, Lib.hid rfl⟩
      have hn5 : n ≤ 5 := by rw [HN.out]; exact h5.out
      rw [← HN.out] at HV5
      rw [← HN.out]
      go_wp2_with fail
      have HH0 : Hid (OFi w5.heap.size (w5.alloc (.cells #[] 33)) (.slice (some ⟨w5.heap.size, 0, none⟩) 0 0) (pl.bareF (N.take 0))) := Lib.hid (World.ownsRow_made _ _ _ (Nat.le_refl _) (by unfold maxLen; omega) rfl)
      have HBA : Hid (Below w5.heap.size w5 (w5.alloc (.cells #[] 33))) := Lib.hid ((Below.refl _ _).alloc (Nat.le_refl _) _)
      obtain ⟨wa, HWA⟩ : ∃ x, Hid (w5.alloc (.cells #[] 33) = x) := ⟨_, Lib.hid rfl⟩
      rw [HWA.out] at HH0 HBA ⊢
      obtain ⟨E, HEE⟩ : ∃ E, Hid (w5.heap.size = E) := ⟨_, Lib.hid rfl⟩
      rw [HEE.out] at HH0 HBA ⊢
      have hwE : Hid (w.heap.size ≤ E) := Lib.hid (by rw [← HEE.out]; exact HB5.out.size)
      go_loopw [5, 6] (fun fv iv wr => RdHo N n E w5 fv iv wr) (fun _ iv _ => n - (intOf iv).toNat)
      case atStart => exact ⟨0, Nat.zero_le _, rfl, HH0, HBA⟩
      case round =>
        obtain ⟨i, hi2, rfl, HO, HB⟩ := hrel
        by_cases hlt : i < n
        · have HIN : Hid (i < N.length) := Lib.hid (by rw [← HN.out]; exact hlt)
          obtain ⟨fs, HFS⟩ : ∃ fs, Hid (pl.bareF (N.take i) = fs) := ⟨_, Lib.hid rfl⟩
          have HFL : Hid (fs.length ≤ 5) := Lib.hid (by rw [← HFS.out, pl.bare_len, List.length_take]; omega)
          rw [HFS.out] at HO
          obtain ⟨bv, HBV⟩ : ∃ bv, Hid (u5 = bv) := ⟨_, Lib.hid rfl⟩
          go_wp2_with fail
          obtain ⟨w0, HW0⟩ : ∃ w0, Hid (wr = w0) := ⟨_, Lib.hid rfl⟩
          rw [HW0.out] at HO HB ⊢
          go_loopw [7] (fun jv wr => RdHo2 i E w5 fs u5 jv wr) (fun jv _ => i - (intOf jv).toNat)
          case atStart => exact ⟨0, Nat.zero_le _, rfl, HO, HB⟩
          case round =>
            obtain ⟨j, hj, rfl, HOJ, HBJ⟩ := hrel
            have hBw : Below w5.heap.size w5 wr := by rw [HEE.out]; exact HBJ.out
            have hEw : E ≤ wr.heap.size := by have := HBJ.out.size; have := HEE.out; omega
            obtain ⟨bb, oo, rfl, hci⟩ := HV5.out.at HN.out hBw hlt
            by_cases hjl : j < i
            · have hjn : j < n := by omega
              obtain ⟨bb', oo', hbb, hcj⟩ := HV5.out.at HN.out hBw hjn
              injection hbb with hbb; injection hbb with e1 e2; subst e1; subst e2
              have hne := HNE.out i j hjl HIN.out
              obtain ⟨nj, HNJ⟩ : ∃ nj, Hid (nth N j = nj) := ⟨_, Lib.hid rfl⟩
              obtain ⟨ni, HNI⟩ : ∃ ni, Hid (nth N i = ni) := ⟨_, Lib.hid rfl⟩
              rw [HNJ.out] at hcj hne
              rw [HNI.out] at hci hne
              have hbe : (nj.toList == ni.toList) = false := toList_ne hne
              clear hne hBw
              go_wp2_with fail
              go_quiet (fail)
              have HB2 : Hid (Below E w5 (wr.drewN nq)) := Lib.hid (HBJ.out.trans below_drewN)
              have HO2 : Hid (OFi E (wr.drewN nq) u5 fs) := Lib.hid (HOJ.out.below below_drewN)
              go_wp2
              go_roundw
              case rel => exact ⟨j + 1, by omega, by go_num, HO2, HB2⟩
              case measure => simp [intOf]; omega
            · obtain rfl : j = i := by omega
              have HBN := Lib.hid (pl.bare_next HIN.out)
              obtain ⟨ni, HNI⟩ : ∃ ni, Hid (nth N j = ni) := ⟨_, Lib.hid rfl⟩
              rw [HNI.out] at hci HBN
              rw [HFS.out] at HBN
              clear hBw
              go_wp2_with (at_builtin; refine wpList_append_own _ rfl _ _ 27 rfl E 33 i0 (.agg #[.string ByteArray.empty, .string ByteArray.empty]) 2 32 Tryd.underlying27 hi hz0 hz1 hz2 rfl (by decide) _ _ _ rfl (World.ownsRow.alloc HOJ.out _) ⟨wr.heap.size, 0, none⟩ 1 1 [.string ni, .string ⟨#[]⟩] rfl rfl (fun k u hu => by have h := cell_two_new wr (.string ni) (.string ⟨#[]⟩) 33 k u hu; simpa using h) (by intro u hu; simp at hu; rcases hu with h | h <;> subst h <;> rfl) (by have := HFL.out; unfold maxLen; omega) (by have := HFL.out; omega) (by simp; omega) ?_)
              intro v8 w8 hown8 hgrow8 _
              have HO8 := Lib.hid (OFi.push hown8)
              rw [← HBN.out] at HO8
              have HB8 := Lib.hid ((HBJ.out.alloc hEw _).grown hgrow8 (by simp; omega) (fun g hg => (World.ownsRow.lt HOJ.out g hg).1))
              clear hown8 hgrow8
              go_wp2
              go_roundw
              case rel => exact ⟨j + 1, by omega, by go_num, HO8, HB8⟩
              case measure => simp [intOf]; omega
        · obtain rfl : i = n := by omega
          have HRF : Hid (RPc wr u5 (pl.bareF N)) := Lib.hid (by have := HO.out.reads; rwa [HN.out, List.take_length] at this)
          have HBW : Hid (Below w.heap.size w wr) := Lib.hid (HB5.out.trans (HB.out.mono hwE.out))
          have HZ : Hid (∀ k, k < (pl.bareF N).length → (pl.nthQ (pl.bareF N) k).1.size ≤ 1048576 ∧ (pl.nthQ (pl.bareF N) k).2.size ≤ 1048576) := Lib.hid (fun k hk => by
            rcases HX.out with ⟨h, _⟩ | ⟨hvf, _⟩
            · cases h
            · obtain ⟨h1, h2, _⟩ := hvf.2 k hk
              have := (pl.nameB_parts h1).2.1
              have h3 := pl.validT_len h2
              rw [pl.len_eq] at this h3
              omega)
          go_wp2_with fail
          refine (iFillForm_any s (pl.bareF N) _ _ (by unfold maxLen; omega) (HMX.out.below (Nat.le_refl _) HBW.out) HRF.out (by rw [pl.bare_len, ← HN.out]; omega) HZ.out).mono ?_
          rintro e w9 ⟨hb9, o, ho, hres⟩
          have HB9 := Lib.hid (HBW.out.trans (hb9.mono HBW.out.size))
          obtain rfl : o = some x := pl.FillIs.uniq ho HX.out
          clear hb9 ho
          rcases hres with ⟨y, hy, rfl⟩ | ⟨hy, rfl⟩
          · go_wp2_with fail
            go_ret
            exact ⟨rfl, HB9.out⟩
          · cases hy
end Go.Proofs.YtadlelcckalcoaaDoor
