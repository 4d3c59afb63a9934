/- Contracts: marks are laid into slices of changes, and asked for (laws' markChangeS, heldChangeS). -/
import Derived.Test.YtckfpneooknifaaArgsC
import Derived.Deep.RegionHeld3
import Derived.Test.YtckfpneooknifaaDraw2
namespace Go.Proofs.Ytckfpneooknifaa
open Go.RowKit
set_option maxRecDepth 100000
set_option linter.unusedVariables false

theorem WCh.at {D E n cap : Nat} {w : World} {a : Option Addr} {cs : List pl.Ch} (h : WCh D E w (.slice a n cap) cs) (hn : n = cs.length) {i : Nat} (hi : i < n) :
    ∃ b o, a = some ⟨b, o, none⟩ ∧ D ≤ b ∧ b < E ∧ E ≤ w.heap.size ∧ w.cell? ⟨b, o + i * 2, none⟩ = some (.int .i64 (pl.nthH cs i).1) ∧ w.cell? ⟨b, o + i * 2 + 1, none⟩ = some (.string (pl.nthH cs i).2) ∧ w.frozen? ⟨b, o + i * 2, none⟩ = false ∧ w.frozen? ⟨b, o + i * 2 + 1, none⟩ = false := by
  obtain ⟨_, hE, ⟨h0, _⟩ | ⟨h0, b, o, c, hv, h1, h2, hc⟩⟩ := h
  · rw [h0] at hn; simp at hn; omega
  · injection hv with e1 e2 e3
    obtain ⟨k1, k2, k3, k4⟩ := hc i (by omega)
    exact ⟨b, o, e1, h1, h2, hE, k1, k2, k3, k4⟩
theorem WCh.set0 {D E n cap b o : Nat} {w : World} {cs : List pl.Ch} (h : WCh D E w (.slice (some ⟨b, o, none⟩) n cap) cs) (hn : n = cs.length) {i : Nat} (hi : i < n) (x : Int) :
    WCh D E (w.setCell ⟨b, o + i * 2, none⟩ (.int .i64 x)) (.slice (some ⟨b, o, none⟩) n cap) (cs.set i (x, (pl.nthH cs i).2)) ∧ w.grownBy (w.setCell ⟨b, o + i * 2, none⟩ (.int .i64 x)) (some b) := by
  refine ⟨?_, ⟨rfl, rfl, rfl, by simp [World.setCell], fun k hk hn => by
    have : k ≠ b := fun e => hn (by rw [e])
    simp [World.setCell, Array.getElem?_modify, Ne.symm this]⟩⟩
  obtain ⟨hD, hE, ⟨h0, _⟩ | ⟨h0, b', o', c, hv, h1, h2, hc⟩⟩ := h
  · rw [h0] at hn; simp at hn; omega
  · injection hv with e1 e2 e3
    injection e1 with e1
    injection e1 with e1 e4 e5
    subst e1; subst e4; subst e3
    refine ⟨hD, by simpa [World.setCell] using hE, .inr ⟨by rw [List.length_set]; exact h0, b, o, cap, by rw [List.length_set, hn], h1, h2, fun j hj => ?_⟩⟩
    rw [List.length_set] at hj
    obtain ⟨k1, k2, k3, k4⟩ := hc j hj
    by_cases e : j = i
    · subst e
      rw [pl.nthH_same hj]
      exact ⟨World.cell?_setCell_same _ _ _ k1, (World.cell?_setCell_other _ _ _ _ (by intro e; injection e with _ e _; omega)).trans k2, by rw [World.frozen?_setCell]; exact k3, by rw [World.frozen?_setCell]; exact k4⟩
    · rw [pl.nthH_other hj e]
      exact ⟨(World.cell?_setCell_other _ _ _ _ (by intro e2; injection e2 with _ e2 _; omega)).trans k1, (World.cell?_setCell_other _ _ _ _ (by intro e2; injection e2 with _ e2 _; omega)).trans k2, by rw [World.frozen?_setCell]; exact k3, by rw [World.frozen?_setCell]; exact k4⟩
theorem WCh.set1 {D E n cap b o : Nat} {w : World} {cs : List pl.Ch} (h : WCh D E w (.slice (some ⟨b, o, none⟩) n cap) cs) (hn : n = cs.length) {i : Nat} (hi : i < n) (y : ByteArray) :
    WCh D E (w.setCell ⟨b, o + i * 2 + 1, none⟩ (.string y)) (.slice (some ⟨b, o, none⟩) n cap) (cs.set i ((pl.nthH cs i).1, y)) ∧ w.grownBy (w.setCell ⟨b, o + i * 2 + 1, none⟩ (.string y)) (some b) := by
  refine ⟨?_, ⟨rfl, rfl, rfl, by simp [World.setCell], fun k hk hn => by
    have : k ≠ b := fun e => hn (by rw [e])
    simp [World.setCell, Array.getElem?_modify, Ne.symm this]⟩⟩
  obtain ⟨hD, hE, ⟨h0, _⟩ | ⟨h0, b', o', c, hv, h1, h2, hc⟩⟩ := h
  · rw [h0] at hn; simp at hn; omega
  · injection hv with e1 e2 e3
    injection e1 with e1
    injection e1 with e1 e4 e5
    subst e1; subst e4; subst e3
    refine ⟨hD, by simpa [World.setCell] using hE, .inr ⟨by rw [List.length_set]; exact h0, b, o, cap, by rw [List.length_set, hn], h1, h2, fun j hj => ?_⟩⟩
    rw [List.length_set] at hj
    obtain ⟨k1, k2, k3, k4⟩ := hc j hj
    by_cases e : j = i
    · subst e
      rw [pl.nthH_same hj]
      exact ⟨(World.cell?_setCell_other _ _ _ _ (by intro e; injection e with _ e _; omega)).trans k1, World.cell?_setCell_same _ _ _ k2, by rw [World.frozen?_setCell]; exact k3, by rw [World.frozen?_setCell]; exact k4⟩
    · rw [pl.nthH_other hj e]
      exact ⟨(World.cell?_setCell_other _ _ _ _ (by intro e2; injection e2 with _ e2 _; omega)).trans k1, (World.cell?_setCell_other _ _ _ _ (by intro e2; injection e2 with _ e2 _; omega)).trans k2, by rw [World.frozen?_setCell]; exact k3, by rw [World.frozen?_setCell]; exact k4⟩

/-- the marks of n changes, from k on -/
def markH (k i : Nat) : pl.Ch := (((k + 2 * i : Nat) : Int), pl.mt (k + 2 * i + 1))
def marksC (k n : Nat) : List pl.Ch := (List.range n).map (markH k)
theorem marksC_len (k n : Nat) : (marksC k n).length = n := by simp [marksC]
theorem marksC_nth {k n i : Nat} (h : i < n) : pl.nthH (marksC k n) i = markH k i := by
  rw [pl.nthH_eq (by rw [marksC_len]; exact h)]; simp [marksC]
/-- the first j changes are marked -/
def MCInv (k n j : Nat) (cs : List pl.Ch) : Prop := cs.length = n ∧ ∀ t, t < j → t < n → pl.nthH cs t = markH k t
theorem mcinv_step {k n j : Nat} {cs cs2 : List pl.Ch} (h : MCInv k n j cs) (hj : j < n) (h2 : cs2 = cs.set j (markH k j)) : MCInv k n (j + 1) cs2 := by
  subst h2
  refine ⟨by rw [List.length_set]; exact h.1, fun t ht htn => ?_⟩
  by_cases e : t = j
  · subst e; exact pl.nthH_same (by rw [h.1]; exact hj)
  · rw [pl.nthH_other (by rw [h.1]; exact htn) e]; exact h.2 t (by omega) htn
theorem mcinv_done {k n : Nat} {cs : List pl.Ch} (h : MCInv k n n cs) : cs = marksC k n := by
  apply pl.nthH_ext (by rw [h.1, marksC_len])
  intro i hi
  rw [h.1] at hi
  rw [marksC_nth hi, h.2 i hi hi]
theorem Touch.tr {D E : Nat} {w w' w'' : World} (h : Touch D E w w') (k : Touch D E w' w'') : Touch D E w w'' :=
  ⟨k.os.trans h.os, k.tape.trans h.tape, k.output.trans h.output, Nat.le_trans h.size k.size, fun b hb hd => (k.block b (Nat.lt_of_lt_of_le hb h.size) hd).trans (h.block b hb hd)⟩
theorem Touch.rf {D E : Nat} {w : World} : Touch D E w w := ⟨rfl, rfl, rfl, Nat.le_refl _, fun _ _ _ => rfl⟩
theorem Touch.ofBelow {D E : Nat} {w w' : World} (h : Below w.heap.size w w') : Touch D E w w' := ⟨h.os, h.tape, h.output, h.size, fun b hb _ => h.block b hb⟩

set_option maxHeartbeats 4000000 in
theorem markC_x (D E k : Nat) (v : Value) (cs : List pl.Ch) (w : World) (h : WCh D E w v cs) (hk : 0 < k) (hk2 : k + 2 * cs.length < 100000000) :
    Calls Try.prog 50 #[v, .int .i64 k] w fun e w' => e = .returned (.int .i64 ((k + 2 * cs.length : Nat) : Int)) ∧ WCh D E w' v (marksC k cs.length) ∧ Touch D E w w' := by
  obtain ⟨a0, c0, rfl⟩ := h.reads.slice
  obtain ⟨n, HN⟩ : ∃ n, Hid (n = cs.length) := ⟨_, Lib.hid rfl⟩
  have HW0 := Lib.hid h
  have HM0 : Hid (MCInv k n 0 cs) := Lib.hid ⟨HN.out.symm, fun t ht => absurd ht (by omega)⟩
  rw [← HN.out] at HW0 hk2 ⊢
  clear h
  go_enter Try.func50, Try.ntmps50
  go_wp2_with fail
  go_loopw [1, 5] (fun kv iv wr => ∃ (j : Nat) (cs' : List pl.Ch), j ≤ n ∧ kv = .int .i64 ((k + 2 * j : Nat) : Int) ∧ iv = .int .i64 j ∧ Hid (MCInv k n j cs') ∧ Hid (WCh D E wr (.slice a0 n c0) cs') ∧ Hid (Touch D E w wr)) (fun _ iv _ => n - (intOf iv).toNat)
  case atStart => exact ⟨0, cs, Nat.zero_le _, rfl, rfl, HM0, HW0, Lib.hid Touch.rf⟩
  case round =>
    obtain ⟨j, cs', hj, rfl, rfl, HM, HW, HT⟩ := hrel
    by_cases hlt : j < n
    · have HLn : Hid (n = cs'.length) := Lib.hid HM.out.1.symm
      obtain ⟨b, o, rfl, hb1, hb2, hb3, c1, c2, f1, f2⟩ := HW.out.at HLn.out hlt
      obtain ⟨K, HK⟩ : ∃ K : Int, Hid (((k + 2 * j : Nat) : Int) = K) := ⟨_, Lib.hid rfl⟩
      have hK0 : 0 ≤ K := by have := HK.out; omega
      have hK1 : K ≤ 100000000 := by have := HK.out; omega
      have HWk := Lib.hid (HW.out.set0 HLn.out hlt K).1
      have HGk := Lib.hid (HW.out.set0 HLn.out hlt K).2
      rw [HK.out]
      go_upto_region 6 with (fail)
      have HT1 : Hid (Touch D E w (wr.setCell ⟨b, o + j * 2, none⟩ (.int .i64 K))) := Lib.hid (HT.out.tr (Touch.ofGrown HGk.out (fun k hk => by injection hk with hk; omega)))
      clear c1 c2 f1 f2 HGk
      obtain ⟨wA, HWA⟩ : ∃ wA, Hid (wr.setCell ⟨b, o + j * 2, none⟩ (.int .i64 K) = wA) := ⟨_, Lib.hid rfl⟩
      rw [HWA.out] at HWk HT1 ⊢
      obtain ⟨cs1, HC1⟩ : ∃ cs1, Hid (cs'.set j (K, (pl.nthH cs' j).2) = cs1) := ⟨_, Lib.hid rfl⟩
      rw [HC1.out] at HWk
      have HL1 : Hid (n = cs1.length) := Lib.hid (by rw [← HC1.out, List.length_set]; exact HLn.out)
      go_wp2_with fail
      refine (markText_at _ (k + 2 * j + 1) (by have := HK.out; omega) _ (by omega) (by omega)).mono ?_
      rintro e w2 ⟨rfl, hb⟩
      have HW2 := Lib.hid (HWk.out.below hb)
      have HT2 : Hid (Touch D E w w2) := Lib.hid (HT1.out.tr (Touch.ofBelow hb))
      clear hb HWk
      obtain ⟨b', o', hbo, _, _, _, c1, c2, f1, f2⟩ := HW2.out.at HL1.out hlt
      injection hbo with hbo; injection hbo with e1 e2; subst e1; subst e2
      obtain ⟨M, HMT⟩ : ∃ M, Hid (pl.mt (k + 2 * j + 1) = M) := ⟨_, Lib.hid rfl⟩
      rw [HMT.out]
      have HW3 := Lib.hid (HW2.out.set1 HL1.out hlt M).1
      have HT3 : Hid (Touch D E w (w2.setCell ⟨b, o + j * 2 + 1, none⟩ (.string M))) := Lib.hid (HT2.out.tr (Touch.ofGrown (HW2.out.set1 HL1.out hlt M).2 (fun k hk => by injection hk with hk; omega)))
      have HMN : Hid (MCInv k n (j + 1) (cs1.set j ((pl.nthH cs1 j).1, M))) := Lib.hid (mcinv_step HM.out hlt (by
        rw [← HC1.out, pl.nthH_same (by rw [← HLn.out]; exact hlt), List.set_set, ← HK.out, ← HMT.out]; rfl))
      have HKN : Hid (K + 1 + 1 = ((k + 2 * (j + 1) : Nat) : Int)) := Lib.hid (by have := HK.out; omega)
      go_wp2_with fail
      go_roundw
      case rel => exact ⟨j + 1, _, by omega, by rw [HKN.out], by go_num, HMN, HW3, HT3⟩
      case measure => simp [intOf]; omega
    · obtain rfl : j = n := by omega
      have HE : Hid (cs' = marksC k j) := Lib.hid (mcinv_done HM.out)
      rw [HE.out] at HW
      go_wp2_with fail
      go_ret
      exact ⟨rfl, HW.out, HT.out⟩

set_option maxHeartbeats 4000000 in
theorem heldC_x {D E : Nat} (k n : Nat) (v : Value) (w : World) (h : WCh D E w v (marksC k n)) (hk : 0 < k) (hk2 : k + 2 * n < 100000000) :
    Calls Try.prog 52 #[v, .int .i64 k] w fun e w' => e = .returned (.int .i64 ((k + 2 * n : Nat) : Int)) ∧ Below w.heap.size w w' := by
  have HR := Lib.hid h.reads
  obtain ⟨a0, c0, rfl⟩ := h.reads.slice
  have HLn : Hid (n = (marksC k n).length) := Lib.hid (marksC_len k n).symm
  rw [marksC_len] at HR ⊢
  clear h
  go_enter Try.func52, Try.ntmps52
  go_wp2_with fail
  go_loopw [1, 5] (fun kv iv wr => ∃ j : Nat, j ≤ n ∧ kv = .int .i64 ((k + 2 * j : Nat) : Int) ∧ iv = .int .i64 j ∧ Hid (Below w.heap.size w wr)) (fun _ iv _ => n - (intOf iv).toNat)
  case atStart => exact ⟨0, Nat.zero_le _, rfl, rfl, Lib.hid (Below.refl _ _)⟩
  case round =>
    obtain ⟨j, hj, rfl, rfl, HB⟩ := hrel
    by_cases hlt : j < n
    · obtain ⟨b, o, rfl, hbw, c1, c2⟩ := HR.out.at HLn.out HB.out hlt
      rw [marksC_nth hlt] at c1 c2
      obtain ⟨K, HK⟩ : ∃ K : Int, Hid (((k + 2 * j : Nat) : Int) = K) := ⟨_, Lib.hid rfl⟩
      have hK0 : 0 ≤ K := by have := HK.out; omega
      have hK1 : K ≤ 100000000 := by have := HK.out; omega
      have c1' : wr.cell? ⟨b, o + j * 2, none⟩ = some (.int .i64 K) := by rw [← HK.out]; exact c1
      have c2' : wr.cell? ⟨b, o + j * 2 + 1, none⟩ = some (.string (pl.mt (k + 2 * j + 1))) := c2
      obtain ⟨M, HMT⟩ : ∃ M, Hid (pl.mt (k + 2 * j + 1) = M) := ⟨_, Lib.hid rfl⟩
      rw [HMT.out] at c2'
      have HC2 := Lib.hid c2'
      have hself : (K != K) = false := by simp
      have hss : (M.toList != M.toList) = false := by simp
      have hbw2 : b < wr.heap.size := by have := HB.out.size; omega
      have hws := HB.out.size
      have HKN : Hid (K + 1 + 1 = ((k + 2 * (j + 1) : Nat) : Int)) := Lib.hid (by have := HK.out; omega)
      clear c1 c2 c2'
      rw [HK.out]
      go_upto_region 7 with (fail)
      have c2' := HC2.out
      go_region_held3 (fun w' => w'.cell? ⟨b, o + j * 2 + 1, none⟩ = some (.string M) ∧ b < w'.heap.size ∧ Below wr.heap.size wr w')
        (first | exact ⟨by simpa using c2', by simpa using hbw2, (Below.refl _ _).drew⟩ | exact ⟨(hb2.cell hbw2).trans (by simpa using c2'), Nat.lt_of_lt_of_le hbw2 hb2.size, (Below.refl _ _).drew.trans hb2⟩)
        (first | (go_at_call 81; refine (markText_at _ (k + 2 * j + 1) (by have := HK.out; omega) _ (by omega) (by omega)).mono ?_; rintro e w2 ⟨rfl, hb2⟩; rw [HMT.out]))
      have HB3 : Hid (Below w.heap.size w w2) := Lib.hid (HB.out.trans (((Below.refl _ _).drew.trans hb2).mono hws))
      clear hb2
      go_wp2_with fail
      go_roundw
      case rel => exact ⟨j + 1, by omega, by rw [HKN.out], by go_num, HB3⟩
      case measure => simp [intOf]; omega
    · obtain rfl : j = n := by omega
      go_wp2_with fail
      go_ret
      exact ⟨rfl, HB.out⟩
end Go.Proofs.Ytckfpneooknifaa
