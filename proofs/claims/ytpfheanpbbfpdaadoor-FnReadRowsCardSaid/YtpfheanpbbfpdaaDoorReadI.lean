/- Contract: the program's ReadRows. -/
import Derived.Test.YtpfheanpbbfpdaaDoorChangeTc
import Derived.Test.YtpfheanpbbfpdaaDoorQuot
import Derived.Test.YtpfheanpbbfpdaaDoorTbV
import Derived.Test.YtpfheanpbbfpdaaDoorShelfR
namespace Go.Proofs.YtpfheanpbbfpdaaDoor
open Go.RowKit
set_option maxRecDepth 100000
set_option linter.unusedVariables false

theorem block_parts {w : World} {g cap : Nat} {T : TypeId} {l : List ByteArray} (h : w.heap[g]? = some (.cells (l.map Value.string).toArray T (0, 0))) (hl : 0 < l.length) : RStrs w (.slice (some ⟨g, 0, none⟩) l.length cap) l := by
  refine .inr ⟨hl, g, 0, cap, rfl, (Array.getElem?_eq_some_iff.1 h).1, fun i hi => ?_⟩
  rw [Nat.zero_add, cell_of_row w g i _ _ _ h, List.getElem?_toArray, List.getElem?_map, List.getElem?_eq_getElem hi, nth_eq hi]
  rfl
theorem split_any (x : ByteArray) (w : World) (hs : x.size ≤ 1000000) (hm : MaxI w) :
    Calls Tryd.prog 54 #[.string x, .string ⟨#[32, 124, 32]⟩] w fun e w' => e = .returned (.slice (some ⟨w.heap.size, 0, none⟩) (pl.partsB x).length (pl.partsB x).length) ∧ RStrs w' (.slice (some ⟨w.heap.size, 0, none⟩) (pl.partsB x).length (pl.partsB x).length) (pl.partsB x) ∧ Below w.heap.size w w' := by
  obtain ⟨_, m, hm⟩ := hm
  refine (Tryd.strings_Split x pl.barS m w (by omega) hm (by decide)).mono ?_
  rintro e w' ⟨rfl, rfl⟩
  rw [pl.splitB_parts, ← pl.splitB_len]
  exact ⟨rfl, block_parts (heap_alloc_new w _) (pl.partsB_len x).1, (Below.refl _ _).alloc (Nat.le_refl _) _⟩

set_option maxHeartbeats 4000000 in
theorem iReadRows_any (ls : List ByteArray) (v : Value) (w : World) (hr : RStrs w v ls) (hl : ls.length ≤ 1048576) (hsz : ∀ i, i < ls.length → (nth ls i).size ≤ 1048576) (hm : MaxI w) :
    Calls Tryd.prog 15 #[v] w fun e w' => ∃ v', e = .returned (.tuple #[v', .bool (pl.readB ls)]) ∧ HPs w.heap.size w' v' (pl.readR ls) ∧ Below w.heap.size w w' := by
  obtain ⟨j0, hj, hy0, hy1, hy2⟩ := info_parts infoSS
  have HR := Lib.hid hr
  have HM := Lib.hid hm
  have HSZ := Lib.hid hsz
  obtain ⟨a0, cap0, rfl⟩ := hr.slice
  obtain ⟨n, HN⟩ : ∃ n, Hid (n = ls.length) := ⟨_, Lib.hid rfl⟩
  rw [← HN.out] at HR hl ⊢
  obtain ⟨T, HT⟩ : ∃ T, Hid (pl.readP ls = T) := ⟨_, Lib.hid rfl⟩
  have HTL : Hid (T.length = n) := Lib.hid (by rw [← HT.out, pl.readP_len, HN.out])
  clear hr hm hsz
  go_enter Tryd.func15, Tryd.ntmps15
  go_wp2_with (at_make; refine wpList_make_full _ rfl _ _ 25 rfl w.heap.size 23 j0 (.slice none 0 0) 1 Tryd.underlying25 hj hy0 hy1 _ _ _ _ n rfl rfl rfl rfl ?b1 ?b2 ?b3 ?_)
  case b1 => rw [hy2]; omega
  case b2 => unfold maxLen; omega
  case b3 => exact Nat.le_refl _
  intro w2 hown hgrow
  have hb2 : Below w.heap.size w w2 := (Below.refl _ _).grown hgrow (Nat.le_refl _) (fun g hg => by cases hg)
  have HO2 : Hid (w2.ownsRow w.heap.size 23 1 (.slice (some ⟨w.heap.size, 0, none⟩) n n) n (List.replicate n (.slice none 0 0))) := Lib.hid (by
    rw [toList_madeCells_one] at hown; exact hown)
  have HB2 := Lib.hid hb2
  clear hown hgrow hb2
  go_wp2_with fail
  go_loopw [12] (fun iv wr => ∃ (k : Nat) (us : List Value), k ≤ n ∧ iv = .int .i64 k ∧ Hid (us.length = n) ∧ Hid (wr.ownsRow w.heap.size 23 1 (.slice (some ⟨w.heap.size, 0, none⟩) n n) n us) ∧ Hid (Inn w.heap.size wr us (firstP k T)) ∧ Hid (Below w.heap.size w wr) ∧ Hid (∀ i, i < k → (nth ls i).size ≤ 180)) (fun iv _ => n - (intOf iv).toNat)
  case atStart => exact ⟨0, _, Nat.zero_le _, rfl, Lib.hid List.length_replicate, HO2, Lib.hid (Inn.start HTL.out.symm), HB2, Lib.hid (fun i hi => absurd hi (by omega))⟩
  case round =>
    obtain ⟨k, us, hk, rfl, hul, HOWN, hinn, HBEL, HSH⟩ := hrel
    by_cases hlt : k < n
    · have hkl : Hid (k < ls.length) := Lib.hid (by rw [← HN.out]; exact hlt)
      have hkT : Hid (k < T.length) := Lib.hid (by rw [HTL.out]; exact hlt)
      obtain ⟨b1, o1, rfl, hx⟩ := HR.out.at HN.out HBEL.out hlt
      have hxm := HSZ.out k hkl.out
      obtain ⟨x, HX⟩ : ∃ x, Hid (nth ls k = x) := ⟨_, Lib.hid rfl⟩
      rw [HX.out] at hx hxm
      by_cases hbig : 180 < x.size
      · have HC : Hid (pl.readB ls = false) := Lib.hid (pl.readB_long (pl.shortLs_no hkl.out (by rw [HX.out]; exact hbig)))
        have HC2 := Lib.hid (pl.readR_no HC.out)
        go_wp2_with fail
        go_ret2
        exact ⟨_, by rw [HC.out]; rfl, by rw [HC2.out]; exact HPs.nil _ _, HBEL.out⟩
      · have HTK : Hid ((pl.partsB x).map pl.trimB = pl.nthP T k) := Lib.hid (by rw [← HT.out, pl.readP_nth hkl.out, HX.out, pl.readRow_parts])
        have HSH2 : Hid (∀ i, i < k + 1 → (nth ls i).size ≤ 180) := Lib.hid (fun i hi => by
          rcases Nat.lt_or_ge i k with h | h
          · exact HSH.out i h
          · obtain rfl : i = k := by omega
            rw [HX.out]; omega)
        have HMR := Lib.hid (HM.out.below (Nat.le_refl _) HBEL.out)
        go_wp2_with fail
        refine (split_any x _ (by omega) HMR.out).mono ?_
        rintro e wa ⟨rfl, hra, hba⟩
        have hpl := pl.partsB_len x
        have HPS := Lib.hid (pl.partsB_size x)
        obtain ⟨P, HP⟩ : ∃ P, Hid (pl.partsB x = P) := ⟨_, Lib.hid rfl⟩
        rw [HP.out] at hra hpl HPS HTK ⊢
        obtain ⟨p, HPL⟩ : ∃ p, Hid (P.length = p) := ⟨_, Lib.hid rfl⟩
        rw [HPL.out] at hra hpl ⊢
        have HRA := Lib.hid hra
        have HBA := Lib.hid hba
        clear hra hba hx
        go_wp2_with fail
        have hA : Below wa.heap.size wa (wa.alloc (.cells #[.func (.func 55) #[] #[]] 45)) := (Below.refl _ _).alloc (Nat.le_refl _) _
        have hf0 : (wa.alloc (.cells #[.func (.func 55) #[] #[]] 45)).cell? ⟨wa.heap.size, 0, none⟩ = some (.func (.func 55) #[] #[]) := by simp
        refine (changeTc_any P _ wa.heap.size _ (HRA.out.below (Nat.le_refl _) hA) (by rw [HPL.out]; omega) (fun i hi => by have := HPS.out i hi; omega) (fun i hi => by have := HPS.out i hi; omega) (by simp) hf0).mono ?_
        rintro e w3 ⟨q, rfl, hoq0, hbq0⟩
        rw [HTK.out] at hoq0
        have hbq : Below wr.heap.size wr w3 := HBA.out.trans ((hA.trans (hbq0.mono hA.size)).mono HBA.out.size)
        have hoq : OStrs wr.heap.size w3 q (pl.nthP T k) := own_mono hoq0 (Nat.le_trans HBA.out.size hA.size)
        have HOWN2 := Lib.hid (own_keep HOWN.out (fun b hb => hbq.block b (World.ownsRow.lt HOWN.out b hb).2))
        have hB2 := Lib.hid (HBEL.out.trans (hbq.mono HBEL.out.size))
        obtain ⟨aq, cq, hq⟩ := hoq.reads.slice
        obtain ⟨M, HMM⟩ : ∃ M, Hid ((pl.nthP T k).length = M) := ⟨_, Lib.hid rfl⟩
        rw [HMM.out] at hq
        have HQ := Lib.hid hoq
        have HBQ := Lib.hid hbq
        have hx : w3.cell? ⟨w.heap.size, k, none⟩ = some (nthV us k) := by
          rw [World.ownsRow.cellAt HOWN2.out k (by omega), nthV_eq (by rw [hul.out]; exact hlt), List.getElem?_eq_getElem (by rw [hul.out]; exact hlt)]
        have hf2 := World.ownsRow.frozenAt HOWN2.out k
        clear hoq hbq hoq0 hbq0 hA hf0
        subst hq
        have hst := World.ownsRow.stored HOWN2.out k (.slice aq M cq)
        have HO3 := Lib.hid hst.1
        have HG3 := Lib.hid hst.2
        have HB3 := Lib.hid (hB2.out.setCell (p := ⟨w.heap.size, k, none⟩) (Nat.le_refl _) (.slice aq M cq))
        have HI3 : Hid (Inn w.heap.size (w3.setCell ⟨w.heap.size, k, none⟩ (.slice aq M cq)) (us.set k (.slice aq M cq)) (firstP (k + 1) T)) := Lib.hid (Inn.fill hinn.out hkT.out (Nat.le_refl _) (fun i hi j b hj hb e => by
          subst e
          rw [HG3.out.block b (Nat.lt_of_lt_of_le hi HBQ.out.size) (fun e2 => types_apart HOWN.out (hinn.out.each j (by rw [← hinn.out.len]; exact hj)) (by decide) b e2.symm hb)]
          exact HBQ.out.block b hi)
          (own_keep HQ.out (fun b hb => HG3.out.block b (World.ownsRow.lt HQ.out b hb).2 (fun e2 => types_apart HOWN2.out HQ.out (by decide) b e2.symm hb))) HBEL.out.size)
        have hul2 : Hid ((us.set k (.slice aq M cq)).length = n) := Lib.hid (by rw [List.length_set]; exact hul.out)
        clear hst
        go_wp2_with fail
        go_roundw
        case rel => exact ⟨k + 1, _, by omega, by go_num, hul2, HO3, HI3, HB3, HSH2⟩
        case measure => simp [intOf]; omega
    · obtain rfl : k = n := by omega
      have hall : Hid (firstP k T = T) := Lib.hid (by rw [← HTL.out]; exact firstP_all T)
      have HOP : Hid (OPs w.heap.size wr (.slice (some ⟨w.heap.size, 0, none⟩) k k) us T) := Lib.hid ⟨by rw [hul.out]; exact HOWN.out, by rw [← hall.out]; exact hinn.out⟩
      have HSM : Hid (Small T) := Lib.hid (by
        obtain ⟨s1, s2, s3⟩ := pl.readP_small (ls := ls) (by rw [← HN.out]; exact hl) (fun i hi => HSH.out i (by rw [HN.out]; exact hi))
        rw [HT.out] at s1 s2 s3
        exact ⟨s1, s2, s3⟩)
      have HRB : Hid (pl.readB ls = pl.vRows T) := Lib.hid (by rw [pl.readB_rows (fun i hi => HSH.out i (by rw [HN.out]; exact hi)), HT.out])
      go_wp2_with fail
      refine (iValidRows_any T _ _ HOP.out.reads HSM.out).mono ?_
      rintro e w4 ⟨rfl, hb4⟩
      have HB4 := Lib.hid (HBEL.out.trans (hb4.mono HBEL.out.size))
      have HOP4 := Lib.hid (HOP.out.below (Nat.le_refl _) hb4)
      clear hb4
      cases hv : pl.vRows T with
      | false =>
        have HC : Hid (pl.readB ls = false) := Lib.hid (HRB.out.trans hv)
        have HC2 := Lib.hid (pl.readR_no HC.out)
        clear hv
        go_wp2_with fail
        go_ret2
        exact ⟨_, by rw [HC.out]; rfl, by rw [HC2.out]; exact HPs.nil _ _, HB4.out⟩
      | true =>
        have HC : Hid (pl.readB ls = true) := Lib.hid (HRB.out.trans hv)
        have HC2 : Hid (pl.readR ls = T) := Lib.hid (by rw [pl.readR_yes HC.out, HT.out])
        clear hv
        go_wp2_with fail
        go_ret2
        exact ⟨_, by rw [HC.out]; rfl, ⟨us, by rw [HC2.out]; exact HOP4.out⟩, HB4.out⟩
end Go.Proofs.YtpfheanpbbfpdaaDoor
