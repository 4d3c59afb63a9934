/- Contract: MatchForm of the model. -/
import Derived.Test.YtadlelcckalcoaaMatchS
namespace Go.Proofs.Ytadlelcckalcoaa
open Go.RowKit
set_option maxRecDepth 100000
set_option linter.unusedVariables false

theorem pl.matchD_len (s t : ByteArray) : (pl.matchD s t).length ≤ 1000 := by
  unfold pl.matchD pl.matchR
  cases hf : pl.formT s.data.toList with
  | none => exact Nat.zero_le _
  | some ts =>
    show ((if (pl.holesT ts).length ≤ 3 ∧ pl.validT t.data.toList = true then (pl.matchT ts [] t.data.toList).map pl.toPc else none).getD []).length ≤ 1000
    split
    · rename_i h
      cases hm : pl.matchT ts [] t.data.toList with
      | none => exact Nat.zero_le _
      | some gs =>
        show (pl.toPc gs).length ≤ 1000
        rw [pl.toPc_len, (pl.match_at hm).1]
        have := pl.ded_len (pl.holesT ts) []
        unfold pl.holesD
        simp at this; omega
    · exact Nat.zero_le _
theorem MFPost.noneO {s t : ByteArray} {w w' : World} {v : Value} (h : pl.matchR s t = Option.none) (hq : OFi w.heap.size w' v []) (hb : Below w.heap.size w w') : MFPost s t w (.returned (.tuple #[v, .bool false])) w' := by
  obtain ⟨h1, h2⟩ := pl.match_none h
  exact ⟨_, by rw [h2], by rw [h1]; exact hq, hb⟩

set_option maxHeartbeats 4000000 in
theorem sMatchForm_any (s t : ByteArray) (w : World) (hs : s.size ≤ 1048576) (ht : t.size ≤ maxLen) :
    Calls Try.prog 19 #[.string s, .string t] w (MFPost s t w) := by
  go_enter Try.func19, Try.ntmps19
  go_wp2_with fail
  refine (sparts_any s _ hs).mono ?_
  rintro e w1 ⟨hb1, hres⟩
  have HB1 := Lib.hid hb1
  clear hb1
  rcases hres with ⟨v, u, rfl, hno⟩ | ⟨v, u, T, N, rfl, hyes, hoT, hoN, hTl, h5, hnm, hts⟩
  · have HE := Lib.hid (pl.matchR_no (t := t) hno)
    clear hno
    go_wp2_with fail
    go_ret2
    exact MFPost.none HE.out HB1.out
  · have HY := Lib.hid hyes
    have HRT := Lib.hid hoT.reads
    have HRN := Lib.hid hoN.reads
    have HTL := Lib.hid hTl
    have HTS := Lib.hid hts
    have HHL := Lib.hid (show (pl.holesT (pl.toT T N)).length = N.length by rw [pl.toT_holes hTl, List.length_map])
    obtain ⟨an, cn, hvn⟩ := hoN.reads.slice
    subst hvn
    obtain ⟨m, HM⟩ : ∃ n, Hid (n = N.length) := ⟨_, Lib.hid rfl⟩
    rw [← HM.out] at HRN HHL h5 ⊢
    clear hyes hoT hoN hTl hnm hts
    go_wp2_with fail
    refine (svalidText_any t _ ht).mono ?_
    rintro e w' ⟨rfl, rfl⟩
    cases hv : pl.validT t.data.toList with
    | false =>
      have HE : Hid (pl.matchR s t = none) := Lib.hid (pl.matchR_bad HY.out (fun h => by rw [hv] at h; cases h.2))
      clear hv
      go_wp2_with fail
      go_ret2
      exact MFPost.none HE.out HB1.out
    | true =>
      have h120 := pl.validT_size hv
      have HV := Lib.hid hv
      clear hv
      by_cases h3 : 3 < m
      · have h3i : (3 : Int) < (m : Int) := by omega
        have HE : Hid (pl.matchR s t = none) := Lib.hid (pl.matchR_bad HY.out (fun h => by have := h.1; rw [HHL.out] at this; omega))
        clear h3
        go_wp2_with fail
        go_ret2
        exact MFPost.none HE.out HB1.out
      · have h3i : ¬ (3 : Int) < (m : Int) := by omega
        have HE : Hid (pl.matchR s t = (pl.matchT (pl.toT T N) [] t.data.toList).map pl.toPc) := Lib.hid (pl.matchR_ok HY.out (by rw [HHL.out]; omega) HV.out)
        clear h3
        have hbA : Below w1.heap.size w1 (w1.alloc (.cells #[] 87)) := (Below.refl _ _).alloc (Nat.le_refl _) _
        have HBA := Lib.hid hbA
        have HO : Hid (OFi w1.heap.size (w1.alloc (.cells #[] 87)) (.slice (some ⟨w1.heap.size, 0, none⟩) 0 0) []) := Lib.hid (OFi.made (Nat.le_refl _))
        clear hbA
        go_wp2_with fail
        have hsm := smatch_any w1.heap.size T N v (.slice an N.length cn) HTL.out (by rw [← HM.out]; exact h5) HTS.out N.length 0 (Nat.add_zero _) [] (.slice (some ⟨w1.heap.size, 0, none⟩) 0 0) t _ (HRT.out.below (Nat.le_refl _) HBA.out) (by have := HRN.out.below (Nat.le_refl _) HBA.out; rw [HM.out] at this; exact this) ⟨HO.out, _, 0, rfl⟩ HBA.out.size (Nat.le_refl _) h120
        rw [← HM.out] at hsm
        refine hsm.mono ?_
        clear hsm
        rintro e w3 ⟨hb3, hres⟩
        have HB3 := Lib.hid (HB1.out.trans ((HBA.out.trans (hb3.mono HBA.out.size)).mono HB1.out.size))
        have hww := HB1.out.size
        clear hb3
        rcases hres with ⟨v', gs, hg, rfl, hq⟩ | ⟨v', gl, hg, rfl, hq, hgl⟩
        · have HR : Hid (pl.matchR s t = some (pl.toPc gs)) := Lib.hid (by rw [HE.out]; rw [show pl.matchT (pl.toT T N) [] t.data.toList = some gs from hg]; rfl)
          have HQ := Lib.hid (hq.mono hww)
          clear hg hq
          go_wp2_with fail
          go_ret2
          exact MFPost.some HR.out HQ.out HB3.out
        · have HR : Hid (pl.matchR s t = none) := Lib.hid (by rw [HE.out]; rw [show pl.matchT (pl.toT T N) [] t.data.toList = none from hg]; rfl)
          obtain rfl : gl = [] := by rcases hgl with h | h <;> exact h
          have HQ := Lib.hid (hq.mono hww)
          clear hg hq
          go_wp2_with fail
          go_ret2
          exact MFPost.noneO HR.out HQ.out HB3.out
end Go.Proofs.Ytadlelcckalcoaa
