/- Contracts: marks are laid into slices of fills, and asked for (laws' markFillS, heldFillS). -/
import Derived.Test.YtadlelcckalcoaaArgsF
import Derived.Test.YtadlelcckalcoaaOFi
import Derived.Test.YtadlelcckalcoaaSpan
import Derived.Deep.RegionHeld3
import Derived.Deep.Cut
namespace Go.Proofs.Ytadlelcckalcoaa
open Go.RowKit
set_option maxRecDepth 100000
set_option linter.unusedVariables false

namespace pl
theorem nthQ_ext {a b : List Pc} (hl : a.length = b.length) (h : ∀ i, i < a.length → nthQ a i = nthQ b i) : a = b := by
  apply List.ext_getElem hl
  intro i h1 h2
  rw [← nthQ_eq h1, ← nthQ_eq h2]
  exact h i h1
theorem nthQ_same {cs : List Pc} {i : Nat} {q : Pc} (h : i < cs.length) : nthQ (cs.set i q) i = q := by
  rw [nthQ_eq (by simpa using h)]; simp
theorem nthQ_other {cs : List Pc} {i j : Nat} {q : Pc} (hj : j < cs.length) (h : j ≠ i) : nthQ (cs.set i q) j = nthQ cs j := by
  rw [nthQ_eq (by simpa using hj), nthQ_eq hj, List.getElem_set_ne (fun e => h e.symm)]
end pl
/-- fills that were made, in blocks from D up to E, and may be written -/
def WFi (D E : Nat) (w : World) (v : Value) (cs : List pl.Pc) : Prop :=
  D ≤ E ∧ E ≤ w.heap.size ∧ ((cs = [] ∧ ∃ a cap, v = .slice a 0 cap) ∨ (0 < cs.length ∧ ∃ b o cap, v = .slice (some ⟨b, o, none⟩) cs.length cap ∧ D ≤ b ∧ b < E ∧ ∀ i, i < cs.length → w.cell? ⟨b, o + i * 2, none⟩ = some (.string (pl.nthQ cs i).1) ∧ w.cell? ⟨b, o + i * 2 + 1, none⟩ = some (.string (pl.nthQ cs i).2) ∧ w.frozen? ⟨b, o + i * 2, none⟩ = false ∧ w.frozen? ⟨b, o + i * 2 + 1, none⟩ = false))
theorem WFi.reads {D E : Nat} {w : World} {v : Value} {cs : List pl.Pc} (h : WFi D E w v cs) : RPc w v cs := by
  obtain ⟨_, hE, h | ⟨h0, b, o, cap, hv, _, hb, hc⟩⟩ := h
  · exact .inl h
  · exact .inr ⟨h0, b, o, cap, hv, by omega, fun i hi => ⟨(hc i hi).1, (hc i hi).2.1⟩⟩
theorem frozen_blockF {w w' : World} {b o : Nat} (h : w'.heap[b]? = w.heap[b]?) : w'.frozen? ⟨b, o, none⟩ = w.frozen? ⟨b, o, none⟩ := by
  unfold World.frozen?; simp only [h]
theorem WFi.touch {D E D' E' : Nat} {w w' : World} {v : Value} {cs : List pl.Pc} (h : WFi D E w v cs) (ht : Touch D' E' w w') (hd : E ≤ D' ∨ E' ≤ D) : WFi D E w' v cs := by
  obtain ⟨hD, hE, h⟩ := h
  refine ⟨hD, Nat.le_trans hE ht.size, ?_⟩
  rcases h with h | ⟨h0, b, o, cap, hv, hb0, hb, hc⟩
  · exact .inl h
  · have hbk : w'.heap[b]? = w.heap[b]? := ht.block b (by omega) (by omega)
    refine .inr ⟨h0, b, o, cap, hv, hb0, hb, fun i hi => ?_⟩
    obtain ⟨c1, c2, f1, f2⟩ := hc i hi
    exact ⟨(World.cell?_of_block hbk).trans c1, (World.cell?_of_block hbk).trans c2, (frozen_blockF hbk).trans f1, (frozen_blockF hbk).trans f2⟩
theorem WFi.below {D E : Nat} {w w' : World} {v : Value} {cs : List pl.Pc} (h : WFi D E w v cs) (hb : Below w.heap.size w w') : WFi D E w' v cs := h.touch (touch_below hb E) (.inl (Nat.le_refl _))
theorem OFi.w {B : Nat} {w : World} {v : Value} {cs : List pl.Pc} (h : OFi B w v cs) (hB : B ≤ w.heap.size) : WFi B w.heap.size w v cs := by
  refine ⟨hB, Nat.le_refl _, ?_⟩
  have hw := h
  rcases h.2 with ⟨hv, hn⟩ | ⟨g, cap, cur, hv, hBg, hg, hle, hm, hs, htake⟩
  · exact .inl ⟨List.length_eq_zero_iff.1 hn, none, 0, hv⟩
  · rcases Nat.eq_zero_or_pos cs.length with h0 | h0
    · exact .inl ⟨List.length_eq_zero_iff.1 h0, _, cap, by rw [hv, h0]⟩
    · refine .inr ⟨h0, g, 0, cap, hv, hBg, (Array.getElem?_eq_some_iff.1 hg).1, fun i hi => ?_⟩
      unfold OFi at hw
      rw [hv] at hw
      obtain ⟨h1, h2, h3, h4⟩ := pr_cells hw hi
      rw [pcV_nth hi] at h1 h2
      rw [Nat.zero_add]
      exact ⟨h1, h2, h3, h4⟩
theorem WFi.at {D E n cap : Nat} {w : World} {a : Option Addr} {cs : List pl.Pc} (h : WFi D E w (.slice a n cap) cs) (hn : n = cs.length) {i : Nat} (hi : i < n) :
    ∃ b o, a = some ⟨b, o, none⟩ ∧ D ≤ b ∧ b < E ∧ E ≤ w.heap.size ∧ w.cell? ⟨b, o + i * 2, none⟩ = some (.string (pl.nthQ cs i).1) ∧ w.cell? ⟨b, o + i * 2 + 1, none⟩ = some (.string (pl.nthQ cs i).2) ∧ w.frozen? ⟨b, o + i * 2, none⟩ = false ∧ w.frozen? ⟨b, o + i * 2 + 1, none⟩ = false := by
  obtain ⟨_, hE, ⟨h0, _⟩ | ⟨h0, b, o, c, hv, h1, h2, hc⟩⟩ := h
  · rw [h0] at hn; simp at hn; omega
  · injection hv with e1 e2 e3
    obtain ⟨k1, k2, k3, k4⟩ := hc i (by omega)
    exact ⟨b, o, e1, h1, h2, hE, k1, k2, k3, k4⟩
theorem WFi.set0 {D E n cap b o : Nat} {w : World} {cs : List pl.Pc} (h : WFi D E w (.slice (some ⟨b, o, none⟩) n cap) cs) (hn : n = cs.length) {i : Nat} (hi : i < n) (x : ByteArray) :
    WFi D E (w.setCell ⟨b, o + i * 2, none⟩ (.string x)) (.slice (some ⟨b, o, none⟩) n cap) (cs.set i (x, (pl.nthQ cs i).2)) ∧ w.grownBy (w.setCell ⟨b, o + i * 2, none⟩ (.string x)) (some b) := by
  refine ⟨?_, ⟨rfl, rfl, rfl, by simp [World.setCell], fun k hk hn => by
    have : k ≠ b := fun e => hn (by rw [e])
    simp [World.setCell, Array.getElem?_modify, Ne.symm this]⟩⟩
  obtain ⟨hD, hE, ⟨h0, _⟩ | ⟨h0, b', o', c, hv, h1, h2, hc⟩⟩ := h
  · rw [h0] at hn; simp at hn; omega
  · injection hv with e1 e2 e3
    injection e1 with e1
    injection e1 with e1 e4 e5
    subst e1; subst e4; subst e3
    refine ⟨hD, by simpa [World.setCell] using hE, .inr ⟨by rw [List.length_set]; exact h0, b, o, cap, by rw [List.length_set, hn], h1, h2, fun j hj => ?_⟩⟩
    rw [List.length_set] at hj
    obtain ⟨k1, k2, k3, k4⟩ := hc j hj
    by_cases e : j = i
    · subst e
      rw [pl.nthQ_same hj]
      exact ⟨World.cell?_setCell_same _ _ _ k1, (World.cell?_setCell_other _ _ _ _ (by intro e; injection e with _ e _; omega)).trans k2, by rw [World.frozen?_setCell]; exact k3, by rw [World.frozen?_setCell]; exact k4⟩
    · rw [pl.nthQ_other hj e]
      exact ⟨(World.cell?_setCell_other _ _ _ _ (by intro e2; injection e2 with _ e2 _; omega)).trans k1, (World.cell?_setCell_other _ _ _ _ (by intro e2; injection e2 with _ e2 _; omega)).trans k2, by rw [World.frozen?_setCell]; exact k3, by rw [World.frozen?_setCell]; exact k4⟩
theorem WFi.set1 {D E n cap b o : Nat} {w : World} {cs : List pl.Pc} (h : WFi D E w (.slice (some ⟨b, o, none⟩) n cap) cs) (hn : n = cs.length) {i : Nat} (hi : i < n) (y : ByteArray) :
    WFi D E (w.setCell ⟨b, o + i * 2 + 1, none⟩ (.string y)) (.slice (some ⟨b, o, none⟩) n cap) (cs.set i ((pl.nthQ cs i).1, y)) ∧ w.grownBy (w.setCell ⟨b, o + i * 2 + 1, none⟩ (.string y)) (some b) := by
  refine ⟨?_, ⟨rfl, rfl, rfl, by simp [World.setCell], fun k hk hn => by
    have : k ≠ b := fun e => hn (by rw [e])
    simp [World.setCell, Array.getElem?_modify, Ne.symm this]⟩⟩
  obtain ⟨hD, hE, ⟨h0, _⟩ | ⟨h0, b', o', c, hv, h1, h2, hc⟩⟩ := h
  · rw [h0] at hn; simp at hn; omega
  · injection hv with e1 e2 e3
    injection e1 with e1
    injection e1 with e1 e4 e5
    subst e1; subst e4; subst e3
    refine ⟨hD, by simpa [World.setCell] using hE, .inr ⟨by rw [List.length_set]; exact h0, b, o, cap, by rw [List.length_set, hn], h1, h2, fun j hj => ?_⟩⟩
    rw [List.length_set] at hj
    obtain ⟨k1, k2, k3, k4⟩ := hc j hj
    by_cases e : j = i
    · subst e
      rw [pl.nthQ_same hj]
      exact ⟨(World.cell?_setCell_other _ _ _ _ (by intro e; injection e with _ e _; omega)).trans k1, World.cell?_setCell_same _ _ _ k2, by rw [World.frozen?_setCell]; exact k3, by rw [World.frozen?_setCell]; exact k4⟩
    · rw [pl.nthQ_other hj e]
      exact ⟨(World.cell?_setCell_other _ _ _ _ (by intro e2; injection e2 with _ e2 _; omega)).trans k1, (World.cell?_setCell_other _ _ _ _ (by intro e2; injection e2 with _ e2 _; omega)).trans k2, by rw [World.frozen?_setCell]; exact k3, by rw [World.frozen?_setCell]; exact k4⟩


/-- the marks of n fills, from k on -/
def markF (k i : Nat) : pl.Pc := (pl.mt (k + 2 * i), pl.mt (k + 2 * i + 1))
def marksF (k n : Nat) : List pl.Pc := (List.range n).map (markF k)
theorem marksF_len (k n : Nat) : (marksF k n).length = n := by simp [marksF]
theorem marksF_nth {k n i : Nat} (h : i < n) : pl.nthQ (marksF k n) i = markF k i := by
  rw [pl.nthQ_eq (by rw [marksF_len]; exact h)]; simp [marksF]
/-- the first j fills are marked -/
def MFInv (k n j : Nat) (cs : List pl.Pc) : Prop := cs.length = n ∧ ∀ t, t < j → t < n → pl.nthQ cs t = markF k t
theorem mfinv_step {k n j : Nat} {cs cs2 : List pl.Pc} (h : MFInv k n j cs) (hj : j < n) (h2 : cs2 = cs.set j (markF k j)) : MFInv k n (j + 1) cs2 := by
  subst h2
  refine ⟨by rw [List.length_set]; exact h.1, fun t ht htn => ?_⟩
  by_cases e : t = j
  · subst e; exact pl.nthQ_same (by rw [h.1]; exact hj)
  · rw [pl.nthQ_other (by rw [h.1]; exact htn) e]; exact h.2 t (by omega) htn
theorem mfinv_done {k n : Nat} {cs : List pl.Pc} (h : MFInv k n n cs) : cs = marksF k n := by
  apply pl.nthQ_ext (by rw [h.1, marksF_len])
  intro i hi
  rw [h.1] at hi
  rw [marksF_nth hi, h.2 i hi hi]
theorem TouchF.tr {D E : Nat} {w w' w'' : World} (h : Touch D E w w') (k : Touch D E w' w'') : Touch D E w w'' :=
  ⟨k.os.trans h.os, k.tape.trans h.tape, k.output.trans h.output, Nat.le_trans h.size k.size, fun b hb hd => (k.block b (Nat.lt_of_lt_of_le hb h.size) hd).trans (h.block b hb hd)⟩
theorem TouchF.rf {D E : Nat} {w : World} : Touch D E w w := ⟨rfl, rfl, rfl, Nat.le_refl _, fun _ _ _ => rfl⟩
theorem TouchF.ofBelow {D E : Nat} {w w' : World} (h : Below w.heap.size w w') : Touch D E w w' := ⟨h.os, h.tape, h.output, h.size, fun b hb _ => h.block b hb⟩

set_option maxHeartbeats 4000000 in
theorem markF_x (D E k : Nat) (v : Value) (cs : List pl.Pc) (w : World) (h : WFi D E w v cs) (hk : 0 < k) (hk2 : k + 2 * cs.length < 100000000) :
    Calls Try.prog 39 #[v, .int .i64 k] w fun e w' => e = .returned (.int .i64 ((k + 2 * cs.length : Nat) : Int)) ∧ WFi D E w' v (marksF k cs.length) ∧ Touch D E w w' := by
  obtain ⟨a0, c0, rfl⟩ := h.reads.slice
  obtain ⟨n, HN⟩ : ∃ n, Hid (n = cs.length) := ⟨_, Lib.hid rfl⟩
  have HW0 := Lib.hid h
  have HM0 : Hid (MFInv k n 0 cs) := Lib.hid ⟨HN.out.symm, fun t ht => absurd ht (by omega)⟩
  rw [← HN.out] at HW0 hk2 ⊢
  clear h
  go_enter Try.func39, Try.ntmps39
  go_wp2_with fail
  go_loopw [1, 5] (fun kv iv wr => ∃ (j : Nat) (cs' : List pl.Pc), j ≤ n ∧ kv = .int .i64 ((k + 2 * j : Nat) : Int) ∧ iv = .int .i64 j ∧ Hid (MFInv k n j cs') ∧ Hid (WFi D E wr (.slice a0 n c0) cs') ∧ Hid (Touch D E w wr)) (fun _ iv _ => n - (intOf iv).toNat)
  case atStart => exact ⟨0, cs, Nat.zero_le _, rfl, rfl, HM0, HW0, Lib.hid TouchF.rf⟩
  case round =>
    obtain ⟨j, cs', hj, rfl, rfl, HM, HW, HT⟩ := hrel
    by_cases hlt : j < n
    · have HLn : Hid (n = cs'.length) := Lib.hid HM.out.1.symm
      obtain ⟨K, HK⟩ : ∃ K : Int, Hid (((k + 2 * j : Nat) : Int) = K) := ⟨_, Lib.hid rfl⟩
      have hK0 : 0 ≤ K := by have := HK.out; omega
      have hK1 : K ≤ 100000000 := by have := HK.out; omega
      rw [HK.out]
      go_wp2_with fail
      refine (markText_at _ (k + 2 * j) (by have := HK.out; omega) _ (by omega) (by omega)).mono ?_
      rintro e w1 ⟨rfl, hb⟩
      have HW1 := Lib.hid (HW.out.below hb)
      have HT0 : Hid (Touch D E w w1) := Lib.hid (TouchF.tr HT.out (TouchF.ofBelow hb))
      clear hb
      obtain ⟨b, o, rfl, hb1, hb2, hb3, c1, c2, f1, f2⟩ := HW1.out.at HLn.out hlt
      obtain ⟨M0, HMT0⟩ : ∃ M, Hid (pl.mt (k + 2 * j) = M) := ⟨_, Lib.hid rfl⟩
      rw [HMT0.out]
      have HWk := Lib.hid (HW1.out.set0 HLn.out hlt M0).1
      have HGk := Lib.hid (HW1.out.set0 HLn.out hlt M0).2
      go_upto_region 6 with (fail)
      have HT1 : Hid (Touch D E w (w1.setCell ⟨b, o + j * 2, none⟩ (.string M0))) := Lib.hid (TouchF.tr HT0.out (Touch.ofGrown HGk.out (fun k hk => by injection hk with hk; omega)))
      clear c1 c2 f1 f2 HGk
      obtain ⟨wA, HWA⟩ : ∃ wA, Hid (w1.setCell ⟨b, o + j * 2, none⟩ (.string M0) = wA) := ⟨_, Lib.hid rfl⟩
      rw [HWA.out] at HWk HT1 ⊢
      obtain ⟨cs1, HC1⟩ : ∃ cs1, Hid (cs'.set j (M0, (pl.nthQ cs' j).2) = cs1) := ⟨_, Lib.hid rfl⟩
      rw [HC1.out] at HWk
      have HL1 : Hid (n = cs1.length) := Lib.hid (by rw [← HC1.out, List.length_set]; exact HLn.out)
      go_wp2_with fail
      refine (markText_at _ (k + 2 * j + 1) (by have := HK.out; omega) _ (by omega) (by omega)).mono ?_
      rintro e w2 ⟨rfl, hb⟩
      have HW2 := Lib.hid (HWk.out.below hb)
      have HT2 : Hid (Touch D E w w2) := Lib.hid (TouchF.tr HT1.out (TouchF.ofBelow hb))
      clear hb HWk
      obtain ⟨b', o', hbo, _, _, _, c1, c2, f1, f2⟩ := HW2.out.at HL1.out hlt
      injection hbo with hbo; injection hbo with e1 e2; subst e1; subst e2
      obtain ⟨M, HMT⟩ : ∃ M, Hid (pl.mt (k + 2 * j + 1) = M) := ⟨_, Lib.hid rfl⟩
      rw [HMT.out]
      have HW3 := Lib.hid (HW2.out.set1 HL1.out hlt M).1
      have HT3 : Hid (Touch D E w (w2.setCell ⟨b, o + j * 2 + 1, none⟩ (.string M))) := Lib.hid (TouchF.tr HT2.out (Touch.ofGrown (HW2.out.set1 HL1.out hlt M).2 (fun k hk => by injection hk with hk; omega)))
      have HMN : Hid (MFInv k n (j + 1) (cs1.set j ((pl.nthQ cs1 j).1, M))) := Lib.hid (mfinv_step HM.out hlt (by
        rw [← HC1.out, pl.nthQ_same (by rw [← HLn.out]; exact hlt), List.set_set, ← HMT0.out, ← HMT.out]; rfl))
      have HKN : Hid (K + 1 + 1 = ((k + 2 * (j + 1) : Nat) : Int)) := Lib.hid (by have := HK.out; omega)
      go_wp2_with fail
      go_roundw
      case rel => exact ⟨j + 1, _, by omega, by rw [HKN.out], by go_num, HMN, HW3, HT3⟩
      case measure => simp [intOf]; omega
    · obtain rfl : j = n := by omega
      have HE : Hid (cs' = marksF k j) := Lib.hid (mfinv_done HM.out)
      rw [HE.out] at HW
      go_wp2_with fail
      go_ret
      exact ⟨rfl, HW.out, HT.out⟩

set_option maxHeartbeats 4000000 in
theorem heldF_x {D E : Nat} (k n : Nat) (v : Value) (w : World) (h : WFi D E w v (marksF k n)) (hk : 0 < k) (hk2 : k + 2 * n < 100000000) :
    Calls Try.prog 40 #[v, .int .i64 k] w fun e w' => e = .returned (.int .i64 ((k + 2 * n : Nat) : Int)) ∧ Below w.heap.size w w' := by
  have HR := Lib.hid h.reads
  obtain ⟨a0, c0, rfl⟩ := h.reads.slice
  have HLn : Hid (n = (marksF k n).length) := Lib.hid (marksF_len k n).symm
  rw [marksF_len] at HR ⊢
  clear h
  go_enter Try.func40, Try.ntmps40
  go_wp2_with fail
  go_loopw [1, 5] (fun kv iv wr => ∃ j : Nat, j ≤ n ∧ kv = .int .i64 ((k + 2 * j : Nat) : Int) ∧ iv = .int .i64 j ∧ Hid (Below w.heap.size w wr)) (fun _ iv _ => n - (intOf iv).toNat)
  case atStart => exact ⟨0, Nat.zero_le _, rfl, rfl, Lib.hid (Below.refl _ _)⟩
  case round =>
    obtain ⟨j, hj, rfl, rfl, HB⟩ := hrel
    by_cases hlt : j < n
    · obtain ⟨b, o, rfl, hbw, c1, c2⟩ := HR.out.at HLn.out HB.out hlt
      rw [marksF_nth hlt] at c1 c2
      obtain ⟨K, HK⟩ : ∃ K : Int, Hid (((k + 2 * j : Nat) : Int) = K) := ⟨_, Lib.hid rfl⟩
      have hK0 : 0 ≤ K := by have := HK.out; omega
      have hK1 : K ≤ 100000000 := by have := HK.out; omega
      have c1' : wr.cell? ⟨b, o + j * 2, none⟩ = some (.string (pl.mt (k + 2 * j))) := c1
      have c2' : wr.cell? ⟨b, o + j * 2 + 1, none⟩ = some (.string (pl.mt (k + 2 * j + 1))) := c2
      obtain ⟨M, HMT⟩ : ∃ M, Hid (pl.mt (k + 2 * j + 1) = M) := ⟨_, Lib.hid rfl⟩
      obtain ⟨M0, HMT0⟩ : ∃ M, Hid (pl.mt (k + 2 * j) = M) := ⟨_, Lib.hid rfl⟩
      rw [HMT.out] at c2'
      rw [HMT0.out] at c1'
      have HC2 := Lib.hid c2'
      have hs0 : (M0.toList != M0.toList) = false := by simp
      have hss : (M.toList != M.toList) = false := by simp
      have hbw2 : b < wr.heap.size := by have := HB.out.size; omega
      have hws := HB.out.size
      have HKN : Hid (K + 1 + 1 = ((k + 2 * (j + 1) : Nat) : Int)) := Lib.hid (by have := HK.out; omega)
      clear c1 c2 c2'
      rw [HK.out]
      go_upto_region 4 with (fail)
      go_region_held3 (fun w' => w'.cell? ⟨b, o + j * 2, none⟩ = some (.string M0) ∧ b < w'.heap.size ∧ Below wr.heap.size wr w')
        (first | exact ⟨by simpa using c1', by simpa using hbw2, (Below.refl _ _).drew⟩ | exact ⟨(hb2.cell hbw2).trans (by simpa using c1'), Nat.lt_of_lt_of_le hbw2 hb2.size, (Below.refl _ _).drew.trans hb2⟩)
        (first | (go_at_call 69; refine (markText_at _ (k + 2 * j) (by have := HK.out; omega) _ (by omega) (by omega)).mono ?_; rintro e w2 ⟨rfl, hb2⟩; rw [HMT0.out]))
      have HB2 : Hid (Below wr.heap.size wr w2) := Lib.hid ((Below.refl _ _).drew.trans hb2)
      have hbw3 : b < w2.heap.size := Nat.lt_of_lt_of_le hbw2 HB2.out.size
      have c3' : w2.cell? ⟨b, o + j * 2 + 1, none⟩ = some (.string M) := (HB2.out.cell (p := ⟨b, o + j * 2 + 1, none⟩) hbw2).trans HC2.out
      have HC3 := Lib.hid c3'
      clear hb2 c1' c3'
      go_upto_region 7 with (fail)
      have c3' := HC3.out
      go_region_held3 (fun w' => w'.cell? ⟨b, o + j * 2 + 1, none⟩ = some (.string M) ∧ b < w'.heap.size ∧ Below w2.heap.size w2 w')
        (first | exact ⟨by simpa using c3', by simpa using hbw3, (Below.refl _ _).drew⟩ | exact ⟨(hb4.cell hbw3).trans (by simpa using c3'), Nat.lt_of_lt_of_le hbw3 hb4.size, (Below.refl _ _).drew.trans hb4⟩)
        (first | (go_at_call 69; refine (markText_at _ (k + 2 * j + 1) (by have := HK.out; omega) _ (by omega) (by omega)).mono ?_; rintro e w4 ⟨rfl, hb4⟩; rw [HMT.out]))
      have HB3 : Hid (Below w.heap.size w w4) := Lib.hid (HB.out.trans ((HB2.out.trans (((Below.refl _ _).drew.trans hb4).mono HB2.out.size)).mono hws))
      clear hb4
      go_wp2_with fail
      go_roundw
      case rel => exact ⟨j + 1, by omega, by rw [HKN.out], by go_num, HB3⟩
      case measure => simp [intOf]; omega
    · obtain rfl : j = n := by omega
      go_wp2_with fail
      go_ret
      exact ⟨rfl, HB.out⟩
end Go.Proofs.Ytadlelcckalcoaa
