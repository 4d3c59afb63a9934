/- Contracts: someCell, someRows, and the draws made of them. -/
import Derived.Test.YtpfheanpbbfpdaaDoorDrawS
import Derived.Test.YtpfheanpbbfpdaaDoorParts
import Derived.Test.YtpfheanpbbfpdaaDoorMark
import Derived.Maps.AppendAt
namespace Go.Proofs.YtpfheanpbbfpdaaDoor
open Go.RowKit
set_option maxRecDepth 100000
set_option linter.unusedVariables false

theorem OPs.readR {B g : Nat} {w w' : World} {v : Value} {us : List Value} {ps : pl.Gs} (h : OPs B w v us ps) (hg : w.grownBy w' (some g)) (hlt : g < B) : OPs B w' v us ps :=
  ⟨own_keep h.1 (fun k hk => hg.block k (World.ownsRow.lt h.1 k hk).2 (fun e => by
    have h1 := (World.ownsRow.lt h.1 k hk).1
    injection e with e
    omega)), h.2.keep (fun i k hi hk => hg.block k (h.2.lt i k hi hk).2 (fun e => by
    have h1 := (h.2.lt i k hi hk).1
    injection e with e
    omega))⟩
def FewR (M : Nat) (ps : pl.Gs) : Prop := ∀ k, k < ps.length → (pl.nthP ps k).length ≤ M ∧ few 40 (pl.nthP ps k)
theorem FewR.nil (M : Nat) : FewR M [] := fun k h => by simp at h
theorem FewR.more {M N : Nat} {ps : pl.Gs} (h : FewR M ps) (hM : M ≤ N) : FewR N ps := fun k hk => ⟨Nat.le_trans (h k hk).1 hM, (h k hk).2⟩
theorem FewR.push {M : Nat} {ps : pl.Gs} {l : List ByteArray} (h : FewR M ps) (h1 : l.length ≤ M) (h2 : few 40 l) : FewR M (ps ++ [l]) := by
  intro k hk
  by_cases e : k < ps.length
  · rw [nthP_left e]; exact h k e
  · have e2 : k = ps.length := by simp at hk; omega
    subst e2
    rw [nthP_last]; exact ⟨h1, h2⟩
theorem nthP_set_same {ps : pl.Gs} {i : Nat} {q : List ByteArray} (h : i < ps.length) : pl.nthP (ps.set i q) i = q := by
  rw [pl.nthP_eq (by simpa using h)]; simp
theorem nthP_set_other {ps : pl.Gs} {i j : Nat} {q : List ByteArray} (hj : j < ps.length) (h : j ≠ i) : pl.nthP (ps.set i q) j = pl.nthP ps j := by
  rw [pl.nthP_eq (by simpa using hj), pl.nthP_eq hj, List.getElem_set_ne (fun e => h e.symm)]
theorem nthV_same {us : List Value} {i : Nat} {q : Value} (h : i < us.length) : nthV (us.set i q) i = q := by
  rw [nthV_eq (by simpa using h)]; simp
theorem nthV_other {us : List Value} {i j : Nat} {q : Value} (hj : j < us.length) (h : j ≠ i) : nthV (us.set i q) j = nthV us j := by
  rw [nthV_eq (by simpa using hj), nthV_eq hj, List.getElem_set_ne (fun e => h e.symm)]
/-- one row is put in place of another -/
theorem Inn.setAt {B i : Nat} {w w' : World} {us : List Value} {ps : pl.Gs} {q : Value} {cur : List ByteArray} (h : Inn B w us ps) (hi : i < us.length) (hq : OStrs B w' q cur)
    (hk : ∀ j b, j < us.length → j ≠ i → (nthV us j).ownBlock = some b → w'.heap[b]? = w.heap[b]?) (ha : ∀ j b, j < us.length → j ≠ i → (nthV us j).ownBlock = some b → q.ownBlock ≠ some b) : Inn B w' (us.set i q) (ps.set i cur) := by
  have hul := h.len
  refine ⟨by simp [hul], fun j hj => ?_, fun j t hjt ht b hb1 hb2 => ?_⟩
  · rw [List.length_set] at hj
    by_cases e : j = i
    · subst e
      rw [nthV_same hi, nthP_set_same hj]; exact hq
    · rw [nthV_other (by omega) e, nthP_set_other hj e]
      exact own_keep (h.each j hj) (fun b hb => hk j b (by omega) e hb)
  · rw [List.length_set] at ht
    by_cases e : j = i
    · subst e
      rw [nthV_same hi] at hb1
      rw [nthV_other ht (by omega)] at hb2
      exact ha t b ht (by omega) hb2 hb1
    · rw [nthV_other (by omega) e] at hb1
      by_cases e2 : t = i
      · subst e2
        rw [nthV_same hi] at hb2
        exact ha j b (by omega) e hb1 hb2
      · rw [nthV_other ht e2] at hb2
        exact h.apart j t hjt ht b hb1 hb2

set_option maxHeartbeats 1000000 in
theorem someCell_any (B g n c p : Nat) (ao : Option Addr) (w : World) (h : Rdr B g n c p ao w) (hp : p ≤ 900000) :
    Calls Tryd.prog 66 #[.pointer (some ⟨g, 0, none⟩)] w (GotStr 40 (p + 2) B g n c ao w) := by
  go_enter Tryd.func66, Tryd.ntmps66
  go_wp2_with fail
  refine (of_lit 14 14 _ rfl (by omega) (by omega) ?_ B g n c p ao _ h (by omega)).mono ?_
  · simp [okStrs, ByteArray.size_mk']
  rintro e w1 ⟨s, rfl, hs, p1, hp1, hR1, hg1⟩
  go_wp2_with fail
  refine (pick_any 40 B g n c p1 ao _ hR1 (by omega) (by omega)).mono ?_
  rintro e w2 ⟨r, rfl, hr0, hr1, hR2, hg2⟩
  have hG := Lib.hid (grown_tr hg1 hg2)
  clear hg1 hg2
  by_cases e0 : r = 0
  · subst e0
    go_wp2_with fail
    go_ret
    exact ⟨_, rfl, by rw [ByteArray.size_append]; have z : (ByteArray.mk #[115, 101, 118, 101, 110, 116, 101, 101, 110, 32, 98, 121, 116, 101, 115, 32, 33]).size = 17 := rfl; omega, p1 + 1, by omega, hR2, hG.out⟩
  · have e0' : (r == 0) = false := beq_eq_false_iff_ne.2 e0
    clear e0
    go_wp2_with fail
    go_ret
    exact ⟨s, rfl, by omega, p1 + 1, by omega, hR2, hG.out⟩

def GotRows (q B g n c : Nat) (ao : Option Addr) (w : World) (e : Ending) (w' : World) : Prop :=
  ∃ v ps, e = .returned v ∧ HPs w.heap.size w' v ps ∧ ps.length ≤ 7 ∧ FewR 6 ps ∧ ∃ p', p' ≤ q ∧ Rdr B g n c p' ao w' ∧ w.grownBy w' (some g)

set_option maxHeartbeats 8000000 in
theorem someRows_any (B g n c p : Nat) (ao : Option Addr) (w : World) (h : Rdr B g n c p ao w) (hp : p ≤ 800000) :
    Calls Tryd.prog 48 #[.pointer (some ⟨g, 0, none⟩)] w (GotRows (p + 200) B g n c ao w) := by
  obtain ⟨i0, hi, hz0, hz1, hz2⟩ := info_parts infoS
  obtain ⟨j0, hj, hy0, hy1, hy2⟩ := info_parts infoSS
  have hgw := h.lt
  have habove := h.above
  go_enter Tryd.func48, Tryd.ntmps48
  go_wp2_with fail
  have hR0 : Rdr B g n c p ao (w.alloc (.cells #[] 23)) := h.below (C := w.heap.size) (by omega) hgw ((Below.refl _ _).alloc (Nat.le_refl _) _)
  have ho0 : OPs w.heap.size (w.alloc (.cells #[] 23)) (.slice (some ⟨w.heap.size, 0, none⟩) 0 0) [] [] := ⟨World.ownsRow_made _ _ _ (Nat.le_refl _) (by unfold maxLen; omega) rfl, Inn.nil _ _⟩
  obtain ⟨w0, HW0⟩ : ∃ u, Hid (w.alloc (.cells #[] 23) = u) := ⟨_, Lib.hid rfl⟩
  have hg0 : w.grownBy w0 (some g) := by rw [← HW0.out]; exact grown_al w _
  have hsz1 : w0.heap.size = w.heap.size + 1 := by rw [← HW0.out]; simp
  rw [HW0.out] at hR0 ho0 ⊢
  rw [← hsz1]
  refine (one_lit 1 5 5 _ rfl (by omega) (by omega) ?_ B g n c p ao _ hR0 (by omega)).mono ?_
  · simp [okInts]
  rintro e w1 ⟨N, rfl, hN0, hN8, p1, hp1, hR1, hg1⟩
  obtain ⟨N, rfl⟩ := Int.eq_ofNat_of_zero_le (show 0 ≤ N by omega)
  have ho1 := ho0.readR hg1 hgw
  have hg1' := grown_tr hg0 hg1
  clear hg0 hg1 ho0 hR0 hsz1
  go_wp2_with fail
  refine (one_lit 0 6 6 _ rfl (by omega) (by omega) ?_ B g n c p1 ao _ hR1 (by omega)).mono ?_
  · simp [okInts]
  rintro e w2 ⟨M, rfl, hM0, hM8, p2, hp2, hR2, hg2⟩
  obtain ⟨M, rfl⟩ := Int.eq_ofNat_of_zero_le hM0
  have ho2 := ho1.readR hg2 hgw
  have hg2' := grown_tr hg1' hg2
  clear hg1' hg2 ho1 hR1
  go_wp2_with fail
  go_loopw [3] (fun ov wr => ∃ (k : Nat) (a : Option Addr) (cp : Nat) (us : List Value) (ps : pl.Gs) (p' : Nat), k ≤ M ∧ ov = .slice a k cp ∧ Hid (ps.length = k) ∧ Hid (OPs w.heap.size wr (.slice a k cp) us ps) ∧ Hid (FewR 5 ps) ∧ p' ≤ p + 2 + 20 * k ∧ Rdr B g n c p' ao wr ∧ Hid (w.grownBy wr (some g))) (fun ov _ => match ov with | .slice _ k _ => M - k | _ => 0)
  case atStart => exact ⟨0, _, 0, [], [], p2, Nat.zero_le _, rfl, Lib.hid rfl, Lib.hid ho2, Lib.hid (FewR.nil 5), by omega, hR2, Lib.hid hg2'⟩
  case round =>
    obtain ⟨k, a, cp, us, ps, p', hk, rfl, hpl, HO, hfew, hp', hR, HG⟩ := hrel
    by_cases hlt : k < M
    · have hlti : (k : Int) < (M : Int) := by omega
      have HUL : Hid (us.length = k) := Lib.hid (HO.out.2.len.trans hpl.out)
      have LT := Lib.hid HO.out.lt
      have hwr : w.heap.size ≤ wr.heap.size := HG.out.size
      go_wp2_with fail
      have hR3 : Rdr B g n c p' ao (wr.alloc (.cells #[] 9)) := hR.below (C := wr.heap.size) (by omega) hR.lt ((Below.refl _ _).alloc (Nat.le_refl _) _)
      have HO3 : Hid (OPs w.heap.size (wr.alloc (.cells #[] 9)) (.slice a k cp) us ps) := Lib.hid (HO.out.below (Nat.le_refl _) ((Below.refl _ _).alloc (Nat.le_refl _) _))
      have HQ3 : Hid (OStrs wr.heap.size (wr.alloc (.cells #[] 9)) (.slice (some ⟨wr.heap.size, 0, none⟩) 0 0) []) := Lib.hid (World.ownsRow_made _ _ _ (Nat.le_refl _) (by unfold maxLen; omega) rfl)
      have HG3 := Lib.hid (grown_tr HG.out (grown_al wr (.cells #[] 9)))
      have hS3 : wr.heap.size ≤ (wr.alloc (.cells #[] 9)).heap.size := by simp
      obtain ⟨w3, HW3⟩ : ∃ u, Hid (wr.alloc (.cells #[] 9) = u) := ⟨_, Lib.hid rfl⟩
      rw [HW3.out] at hR3 HO3 HQ3 HG3 hS3 ⊢
      obtain ⟨D, HD⟩ : ∃ D, Hid (wr.heap.size = D) := ⟨_, Lib.hid rfl⟩
      rw [HD.out] at HQ3 LT hwr hS3 ⊢
      clear HO HG hR
      go_loopw [6] (fun cv wi => ∃ (j : Nat) (b : Option Addr) (cq : Nat) (l : List ByteArray) (q : Nat), j ≤ N ∧ cv = .slice b j cq ∧ Hid (l.length = j) ∧ Hid (OStrs D wi (.slice b j cq) l) ∧ Hid (few 40 l) ∧ q ≤ p' + 2 * j ∧ Rdr B g n c q ao wi ∧ Hid (OPs w.heap.size wi (.slice a k cp) us ps) ∧ Hid (w.grownBy wi (some g)) ∧ D ≤ wi.heap.size) (fun cv _ => match cv with | .slice _ j _ => N - j | _ => 0)
      case atStart => exact ⟨0, _, 0, [], p', Nat.zero_le _, rfl, Lib.hid rfl, HQ3, Lib.hid (few_nil _), by omega, hR3, HO3, HG3, hS3⟩
      case round =>
        obtain ⟨j, b, cq, l, q, hjN, rfl, hll, HQ, hfl, hq, hRi, HOi, HGi, hDi⟩ := hrel
        obtain ⟨wi, rfl⟩ : ∃ wi : World, wi = wr := ⟨_, rfl⟩
        by_cases hlj : j < N
        · have hlji : (j : Int) < (N : Int) := by omega
          go_wp2_with fail
          refine (someCell_any B g n c q ao _ hRi (by omega)).mono ?_
          rintro e w4 ⟨s, rfl, hs, p4, hp4, hR4, hg4⟩
          have hgD : g < D := by omega
          have HQ4 := Lib.hid (HQ.out.read hg4 hgD)
          have HO4 := Lib.hid (HOi.out.readR hg4 hgw)
          have HG4 := Lib.hid (grown_tr HGi.out hg4)
          have hD4 : D ≤ w4.heap.size := Nat.le_trans hDi hg4.size
          clear hg4 HQ HOi HGi hRi
          go_wp2_with (at_builtin; refine wpList_append_own _ rfl _ _ 23 rfl D 9 i0 (.string ByteArray.empty) 1 16 Tryd.underlying23 hi hz0 hz1 hz2 rfl (by decide) _ _ _ rfl (World.ownsRow.alloc HQ4.out _) ⟨w4.heap.size, 0, none⟩ 1 1 [.string s] rfl rfl ?ka1 ?ka2 ?ka3 ?ka4 ?ka5 ?_)
          case ka1 => exact cell_one_new _ _ _
          case ka2 => intro u hu; simp at hu; subst hu; rfl
          case ka3 => rw [hll.out]; unfold maxLen; omega
          case ka4 => rw [hll.out]; omega
          case ka5 => simp; omega
          intro v5 w5 hown5 hgrow5 _
          have HQ5 := Lib.hid (OStrs.push1 hown5)
          have hbE : Below D w4 w5 := ((Below.refl _ _).alloc hD4 _).grown hgrow5 (by simp; omega) (fun k hk => (World.ownsRow.lt HQ4.out k hk).1)
          have HO5 : Hid (OPs w.heap.size w5 (.slice a k cp) us ps) := Lib.hid (OPs.grown (HO4.out.below (Nat.le_refl _) ((Below.refl _ _).alloc (Nat.le_refl _) _)) (World.ownsRow.alloc HQ4.out _) hgrow5 (.inr LT.out))
          have HG5 := Lib.hid (grown_then HG4.out (hbE.mono hwr))
          have hR5 := hR4.below (C := D) (by omega) hgD hbE
          have hD5 : D ≤ w5.heap.size := Nat.le_trans hD4 hbE.size
          obtain ⟨b5, c5, hv5⟩ := HQ5.out.reads.slice
          have hl5 : (l ++ [s]).length = j + 1 := by rw [List.length_append, hll.out]; rfl
          rw [hl5] at hv5
          subst hv5
          have HL5 := Lib.hid hl5
          have HF5 := Lib.hid (few_push hfl.out hs)
          clear hown5 hgrow5 hbE hl5
          go_wp2
          go_roundw
          case rel => exact ⟨j + 1, b5, c5, _, p4, by omega, rfl, HL5, HQ5, HF5, by omega, hR5, HO5, HG5, hD5⟩
          case measure => simp; omega
        · obtain rfl : j = N := by omega
          have HLT := LT
          go_wp2_with (at_builtin; refine wpList_append_own _ rfl _ _ 25 rfl w.heap.size 23 j0 (.slice none 0 0) 1 24 Tryd.underlying25 hj hy0 hy1 hy2 rfl (by decide) _ _ _ rfl (World.ownsRow.alloc HOi.out.1 _) ⟨wi.heap.size, 0, none⟩ 1 1 [.slice b j cq] rfl rfl ?kb1 ?kb2 ?kb3 ?kb4 ?kb5 ?_)
          case kb1 => exact cell_one_new _ _ _
          case kb2 => intro u hu; simp at hu; subst hu; rfl
          case kb3 => rw [HUL.out]; unfold maxLen; omega
          case kb4 => rw [HUL.out]; omega
          case kb5 => simp; omega
          intro v5 w5 hown5 hgrow5 _
          have HP5 := Lib.hid (HOi.out.pushed HQ.out hwr LT.out hown5 hgrow5)
          have hbE : Below w.heap.size wi w5 := ((Below.refl _ _).alloc (by omega) _).grown hgrow5 (by simp; omega) (fun k hk => (World.ownsRow.lt HOi.out.1 k hk).1)
          have HG5 := Lib.hid (grown_then HGi.out hbE)
          have hR5 := hRi.below (C := w.heap.size) (by omega) hgw hbE
          have HF5 := Lib.hid (hfew.out.push (by rw [hll.out]; omega) hfl.out)
          obtain ⟨b5, c5, hv5⟩ := HP5.out.reads.slice
          have hl5 : (ps ++ [l]).length = k + 1 := by rw [List.length_append, hpl.out]; rfl
          rw [hl5] at hv5
          subst hv5
          have HL5 := Lib.hid hl5
          clear hown5 hgrow5 hbE hl5
          go_wp2
          go_roundw
          case rel => exact ⟨k + 1, b5, c5, _, _, q, by omega, rfl, HL5, HP5, HF5, by omega, hR5, HG5⟩
          case measure => simp; omega
    · obtain rfl : k = M := by omega
      have HUL : Hid (us.length = k) := Lib.hid (HO.out.2.len.trans hpl.out)
      go_wp2_with fail
      refine (pick_any 40 B g n c p' ao _ hR (by omega) (by omega)).mono ?_
      rintro e w3 ⟨r, rfl, hr0, hr1, hR3, hg3⟩
      have HO3 := Lib.hid (HO.out.readR hg3 hgw)
      have HG3 := Lib.hid (grown_tr HG.out hg3)
      have hS3 : w.heap.size ≤ w3.heap.size := HG3.out.size
      clear hg3 HO HG
      by_cases e0 : r = 0
      · subst e0
        by_cases hk0 : k = 0
        · have hk0i : ¬ (0 : Int) < (k : Int) := by omega
          clear hk0
          go_wp2_with fail
          go_ret
          exact ⟨_, ps, rfl, ⟨us, HO3.out⟩, by rw [hpl.out]; omega, hfew.out.more (by omega), p' + 1, by omega, hR3, HG3.out⟩
        · have hk0i : (0 : Int) < (k : Int) := by omega
          have hkp : 0 < k := by omega
          clear hk0
          have hrd := HO3.out.reads
          obtain ⟨b1, o1, u, rfl, hlb, hcu, hru⟩ := hrd.at hpl.out.symm (Below.refl _ _) hkp
          have hown := HO3.out.1
          rw [HUL.out] at hown
          obtain ⟨g1, ho1, rfl⟩ : ∃ g1, o1 = 0 ∧ g1 = b1 := by
            rcases HO3.out.1.2 with ⟨hv, _⟩ | ⟨g1, cp1, cu1, hv, _⟩
            · cases hv
            · simp only [Value.slice.injEq, Option.some.injEq, Addr.mk.injEq] at hv
              exact ⟨b1, hv.1.2.1, rfl⟩
          subst ho1
          have hu : u = nthV us 0 := by
            have := World.ownsRow.cellAt hown 0 (by omega)
            rw [Nat.zero_add] at hcu
            rw [hcu] at this
            rw [nthV_eq (by rw [HUL.out]; exact hkp)]
            rw [List.getElem?_eq_getElem (by rw [HUL.out]; exact hkp)] at this
            exact Option.some.inj this
          subst hu
          have HE0 := Lib.hid (HO3.out.2.each 0 (by rw [hpl.out]; exact hkp))
          obtain ⟨a0, c0, hv0⟩ := hru.1.slice
          obtain ⟨L0, HL0⟩ : ∃ L, Hid (pl.nthP ps 0 = L) := ⟨_, Lib.hid rfl⟩
          obtain ⟨m0, HM0⟩ : ∃ m, Hid (L0.length = m) := ⟨_, Lib.hid rfl⟩
          have hf0 := hfew.out 0 (by rw [hpl.out]; exact hkp)
          rw [HL0.out] at hv0 HE0 hf0
          have HF0 := Lib.hid hf0
          rw [HM0.out] at hv0
          have hm6 : m0 ≤ 5 := by rw [← HM0.out]; exact hf0.1
          rw [hv0] at hcu HE0
          have HV0 := Lib.hid hv0
          have HOWN := Lib.hid hown
          clear hru hrd hf0 hv0 hown
          rw [Nat.zero_add] at hcu
          go_wp2_with (at_builtin; refine wpList_append_own_at _ rfl _ _ 23 rfl w.heap.size 9 i0 (.string ByteArray.empty) 1 16 Tryd.underlying23 hi hz0 hz1 hz2 rfl (by decide) _ _ _ rfl (World.ownsRow.alloc HE0.out _) ⟨w3.heap.size, 0, none⟩ 1 1 [.string ⟨#[120]⟩] rfl rfl ?kc1 ?kc2 ?kc3 ?kc4 ?kc5 ?_)
          case kc1 => exact cell_one_new _ _ _
          case kc2 => intro u hu; simp at hu; subst hu; rfl
          case kc3 => rw [HM0.out]; unfold maxLen; omega
          case kc4 => rw [HM0.out]; omega
          case kc5 => simp; omega
          intro v4 w4 hown4 hgrow4 _ hat4
          have HQ4 := Lib.hid (OStrs.push1 hown4)
          have hbE : Below w.heap.size w3 w4 := ((Below.refl _ _).alloc hS3 _).grown hgrow4 (by simp; omega) (fun k hk => (World.ownsRow.lt HE0.out k hk).1)
          have HA4 : Hid (w3.alloc (.cells #[.string ⟨#[120]⟩] 9)|>.grownBy w4 (Value.slice a0 m0 c0).ownBlock) := Lib.hid hgrow4
          have HOA : Hid (OPs w.heap.size (w3.alloc (.cells #[.string ⟨#[120]⟩] 9)) (.slice (some ⟨g1, 0, none⟩) k cp) us ps) := Lib.hid (HO3.out.below (Nat.le_refl _) ((Below.refl _ _).alloc (Nat.le_refl _) _))
          have HW4 : Hid (w4.ownsRow w.heap.size 23 1 (.slice (some ⟨g1, 0, none⟩) k cp) k us) := Lib.hid (own_keep (by have := HOA.out.1; rw [HUL.out] at this; exact this) (fun b hb => HA4.out.block b (World.ownsRow.lt HOA.out.1 b hb).2 (fun e => types_apart HOA.out.1 (World.ownsRow.alloc HE0.out _) (by decide) b hb e.symm)))
          have HI4 : Hid (Inn w.heap.size w4 (us.set 0 v4) (ps.set 0 (L0 ++ [⟨#[120]⟩]))) := Lib.hid (HOA.out.2.setAt (by rw [HUL.out]; exact hkp) HQ4.out
            (fun j b hj hne hb => HA4.out.block b (HOA.out.2.lt j b hj hb).2 (fun e => HO3.out.2.apart 0 j (by omega) hj b (by rw [HV0.out]; exact e.symm) hb))
            (fun j b hj hne hb e => by
              rcases hat4 with h | h
              · exact HO3.out.2.apart 0 j (by omega) hj b (by rw [HV0.out, ← h]; exact e) hb
              · rw [h] at e
                have := (HO3.out.2.lt j b hj hb).2
                injection e with e
                first | omega | (simp at e; omega)))
          have HG4 := Lib.hid (grown_then HG3.out hbE)
          have hR4 := hR3.below (C := w.heap.size) (by omega) hgw hbE
          have hS4 : w.heap.size ≤ w4.heap.size := Nat.le_trans hS3 hbE.size
          obtain ⟨a4, c4, hv4⟩ := HQ4.out.reads.slice
          have hl4 : (L0 ++ [(⟨#[120]⟩ : ByteArray)]).length = m0 + 1 := by rw [List.length_append, HM0.out]; rfl
          rw [hl4] at hv4
          subst hv4
          have hx4 : w4.cell? ⟨g1, 0, none⟩ = some (.slice a0 m0 c0) := by
            rw [World.ownsRow.cellAt HW4.out 0 (by omega), List.getElem?_eq_getElem (by rw [HUL.out]; exact hkp), ← nthV_eq (by rw [HUL.out]; exact hkp), HV0.out]
          have hf4 := World.ownsRow.frozenAt HW4.out 0
          have hst := World.ownsRow.stored HW4.out 0 (.slice a4 (m0 + 1) c4)
          have HO5 := Lib.hid hst.1
          have HG5 := Lib.hid hst.2
          have HI5 : Hid (Inn w.heap.size (w4.setCell ⟨g1, 0, none⟩ (.slice a4 (m0 + 1) c4)) (us.set 0 (.slice a4 (m0 + 1) c4)) (ps.set 0 (L0 ++ [⟨#[120]⟩]))) := Lib.hid (HI4.out.keep (fun i b hi hb => HG5.out.block b (HI4.out.lt i b hi hb).2 (fun e2 => types_apart HW4.out (HI4.out.each i (by rw [← HI4.out.len]; exact hi)) (by decide) b e2.symm hb)))
          have hb5 : Below w.heap.size w4 (w4.setCell ⟨g1, 0, none⟩ (.slice a4 (m0 + 1) c4)) := (Below.refl _ _).setCell (p := ⟨g1, 0, none⟩) (World.ownsRow.lt HW4.out g1 rfl).1 _
          have HR5 := hR4.below (C := w.heap.size) (by omega) hgw hb5
          have HG6 := Lib.hid (grown_then HG4.out hb5)
          have HFE : Hid (FewR 6 (ps.set 0 (L0 ++ [(⟨#[120]⟩ : ByteArray)]))) := Lib.hid (by
            intro i hi
            rw [List.length_set] at hi
            by_cases e : i = 0
            · subst e
              rw [nthP_set_same hi, List.length_append, HM0.out]
              exact ⟨by simp; omega, few_push HF0.out.2 (by have z : (ByteArray.mk #[120]).size = 1 := rfl; omega)⟩
            · rw [nthP_set_other hi e]; exact hfew.out.more (by omega) i hi)
          clear hown4 hgrow4 hat4 hbE hl4 hst hb5 hcu
          go_wp2_with fail
          go_ret
          exact ⟨_, _, rfl, ⟨_, ⟨by rw [List.length_set, HUL.out]; exact HO5.out, HI5.out⟩⟩, by rw [List.length_set, hpl.out]; omega, HFE.out, p' + 1, by omega, HR5, HG6.out⟩
      · have e0' : (r == 0) = false := beq_eq_false_iff_ne.2 e0
        by_cases e1 : r = 1
        · subst e1
          clear e0 e0'
          have hR4 : Rdr B g n c (p' + 1) ao (w3.alloc (.cells #[] 9)) := hR3.below (C := w3.heap.size) (by omega) hR3.lt ((Below.refl _ _).alloc (Nat.le_refl _) _)
          have LT4 := Lib.hid HO3.out.lt
          have HO4 : Hid (OPs w.heap.size (w3.alloc (.cells #[] 9)) (.slice a k cp) us ps) := Lib.hid (HO3.out.below (Nat.le_refl _) ((Below.refl _ _).alloc (Nat.le_refl _) _))
          have HQ4 : Hid (OStrs w3.heap.size (w3.alloc (.cells #[] 9)) (.slice (some ⟨w3.heap.size, 0, none⟩) 0 0) []) := Lib.hid (World.ownsRow_made _ _ _ (Nat.le_refl _) (by unfold maxLen; omega) rfl)
          have HG4 := Lib.hid (grown_tr HG3.out (grown_al w3 (.cells #[] 9)))
          have hS4 : w3.heap.size ≤ (w3.alloc (.cells #[] 9)).heap.size := by simp
          obtain ⟨D, HD⟩ : ∃ D, Hid (w3.heap.size = D) := ⟨_, Lib.hid rfl⟩
          have hsz4 : (w3.alloc (.cells #[] 9)).heap.size = D + 1 := by rw [← HD.out]; simp
          obtain ⟨w4, HW4⟩ : ∃ u, Hid (w3.alloc (.cells #[] 9) = u) := ⟨_, Lib.hid rfl⟩
          rw [HW4.out] at hR4 HO4 HQ4 HG4 hS4 hsz4
          rw [HD.out] at HQ4 LT4 hS3 hS4
          have HSZ4 := Lib.hid hsz4
          clear hsz4
          go_wp2_with (at_builtin; rw [HW4.out, HD.out, ← HSZ4.out]; refine wpList_append_own _ rfl _ _ 25 rfl w.heap.size 23 j0 (.slice none 0 0) 1 24 Tryd.underlying25 hj hy0 hy1 hy2 rfl (by decide) _ _ _ rfl (World.ownsRow.alloc HO4.out.1 _) ⟨w4.heap.size, 0, none⟩ 1 1 [.slice (some ⟨D, 0, none⟩) 0 0] rfl rfl ?kd1 ?kd2 ?kd3 ?kd4 ?kd5 ?_)
          case kd1 => exact cell_one_new _ _ _
          case kd2 => intro u hu; simp at hu; subst hu; rfl
          case kd3 => rw [HUL.out]; unfold maxLen; omega
          case kd4 => rw [HUL.out]; omega
          case kd5 => simp; omega
          intro v5 w5 hown5 hgrow5 _
          have HP5 := Lib.hid (HO4.out.pushed HQ4.out hS3 LT4.out hown5 hgrow5)
          have hS4' : w.heap.size ≤ w4.heap.size := by omega
          have hbE : Below w.heap.size w4 w5 := ((Below.refl _ _).alloc hS4' _).grown hgrow5 (by simp; omega) (fun k hk => (World.ownsRow.lt HO4.out.1 k hk).1)
          have HG5 := Lib.hid (grown_then HG4.out hbE)
          have hR5 := hR4.below (C := w.heap.size) (by omega) hgw hbE
          have HF5 := Lib.hid (hfew.out.push (l := []) (by simp) (few_nil _))
          clear hown5 hgrow5 hbE
          go_wp2
          go_ret
          exact ⟨_, _, rfl, ⟨_, HP5.out⟩, by rw [List.length_append, hpl.out]; simp; omega, HF5.out.more (by omega), p' + 1, by omega, hR5, HG5.out⟩
        · have e1' : (r == 1) = false := beq_eq_false_iff_ne.2 e1
          clear e0 e1
          go_wp2_with fail
          go_ret
          exact ⟨_, ps, rfl, ⟨us, HO3.out⟩, by rw [hpl.out]; omega, hfew.out.more (by omega), p' + 1, by omega, hR3, HG3.out⟩

theorem FewR.small {M : Nat} {ps : pl.Gs} (h : FewR M ps) (hM : M ≤ 1000000) (hl : ps.length ≤ 1000) : Small ps :=
  ⟨by omega, fun k hk => by have := (h k hk).1; omega, fun k hk i hi => by have := (h k hk).2 i hi; omega⟩
def DrewRows (w : World) (e : Ending) (w' : World) : Prop := ∃ v ps, e = .returned v ∧ HPs w.heap.size w' v ps ∧ ps.length ≤ 7 ∧ FewR 6 ps ∧ Below w.heap.size w w'
theorem rowsOf_reader {w w1 w2 : World} {n c : Nat} {a : Option Addr} {e : Ending} (hb1 : Below w.heap.size w w1) (h : GotRows (0 + 200) w.heap.size w.heap.size n c a w1 e w2) : DrewRows w e w2 := by
  obtain ⟨v, ps, rfl, ⟨us, ho⟩, hl, hf, p', _, _, hg⟩ := h
  exact ⟨v, ps, rfl, ⟨us, ho.mono hb1.size⟩, hl, hf, hb1.grown hg hb1.size (fun k hk => by cases hk; exact Nat.le_refl _)⟩

end Go.Proofs.YtpfheanpbbfpdaaDoor
