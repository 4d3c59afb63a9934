/- Contracts: someChanges, DrawApplyChanges, DrawTurnChanges. -/
import Derived.Test.YtckfpneooknifaaDrawTx
import Derived.Test.YtckfpneooknifaaChgS
import Derived.Test.YtckfpneooknifaaMarkC
namespace Go.Proofs.Ytckfpneooknifaa
open Go.RowKit
set_option maxRecDepth 100000
set_option linter.unusedVariables false

namespace pl
theorem chg_mem {a b : List ByteArray} : ∀ c ∈ chg a b, c.2 ∈ a ∨ c.2 ∈ b := by
  induction a generalizing b with
  | nil =>
    induction b with
    | nil => rw [chg_nil]; intro c hc; cases hc
    | cons y b ih =>
      rw [chg_right]
      intro c hc
      rcases List.mem_cons.1 hc with rfl | hc
      · exact .inr (List.mem_cons_self ..)
      · rcases ih c hc with h | h
        · exact .inl h
        · exact .inr (List.mem_cons_of_mem _ h)
  | cons x a iha =>
    induction b with
    | nil =>
      rw [chg_left]
      intro c hc
      rcases List.mem_cons.1 hc with rfl | hc
      · exact .inl (List.mem_cons_self ..)
      · rcases iha c hc with h | h
        · exact .inl (List.mem_cons_of_mem _ h)
        · exact .inr h
    | cons y b ihb =>
      by_cases e : x = y
      · subst e
        rw [chg_keep]
        intro c hc
        rcases List.mem_cons.1 hc with rfl | hc
        · exact .inl (List.mem_cons_self ..)
        · rcases iha c hc with h | h
          · exact .inl (List.mem_cons_of_mem _ h)
          · exact .inr (List.mem_cons_of_mem _ h)
      · by_cases h : lcs (x :: a) b ≤ lcs a (y :: b)
        · rw [chg_drop e h]
          intro c hc
          rcases List.mem_cons.1 hc with rfl | hc
          · exact .inl (List.mem_cons_self ..)
          · rcases iha c hc with h | h
            · exact .inl (List.mem_cons_of_mem _ h)
            · exact .inr h
        · rw [chg_add e h]
          intro c hc
          rcases List.mem_cons.1 hc with rfl | hc
          · exact .inr (List.mem_cons_self ..)
          · rcases ihb c hc with h | h
            · exact .inl h
            · exact .inr (List.mem_cons_of_mem _ h)
/-- the texts are short -/
def ShortC (cs : List Ch) : Prop := ∀ i, i < cs.length → (nthH cs i).2.size ≤ 120
theorem chgR_short (a b : List ByteArray) : ShortC (chgR a b) := by
  unfold chgR
  split
  · rename_i h
    intro i hi
    rw [nthH_eq hi]
    have hs : ∀ l : List ByteArray, validLs l = true → ∀ x ∈ l, x.size ≤ 120 := fun l hl x hx => by
      obtain ⟨j, hj, rfl⟩ := List.getElem_of_mem hx
      rw [← nth_eq hj]; exact validLs_size hl j hj
    rcases chg_mem _ (List.getElem_mem hi) with hm | hm
    · exact hs _ h.1 _ hm
    · exact hs _ h.2 _ hm
  · intro i hi; simp at hi
theorem ShortC.set {cs : List Ch} (h : ShortC cs) {k : Nat} (hk : k < cs.length) (x : Int) : ShortC (cs.set k (x, (nthH cs k).2)) := by
  intro i hi
  rw [List.length_set] at hi
  by_cases e : i = k
  · subst e; rw [nthH_same hi]; exact h i hi
  · rw [nthH_other hi e]; exact h i hi
end pl
theorem OCh.read {B g : Nat} {w w' : World} {v : Value} {cs : List pl.Ch} (h : OCh B w v cs) (hg : w.grownBy w' (some g)) (hlt : g < B) : OCh B w' v cs := by
  refine World.ownsRow.kept h hg ?_
  cases hv : v.ownBlock with
  | none => exact .inl rfl
  | some k =>
    right
    intro e
    have h1 := (World.ownsRow.lt h k hv).1
    injection e with e
    omega
theorem OStrs.other {B b E : Nat} {w w' : World} {v : Value} {l : List ByteArray} (h : OStrs B w v l) (hg : w.grownBy w' (some b)) (hE : ∀ k, v.ownBlock = some k → k < E) (hb : E ≤ b) : OStrs B w' v l := by
  refine World.ownsRow.kept h hg ?_
  cases hv : v.ownBlock with
  | none => exact .inl rfl
  | some k =>
    right
    intro e
    have h1 := hE k hv
    injection e with e
    omega

def GotCh (q B g n c : Nat) (ao : Option Addr) (w : World) (e : Ending) (w' : World) : Prop :=
  ∃ va v A cs, e = .returned (.tuple #[va, v]) ∧ OStrs w.heap.size w' va A ∧ RCh w' v cs ∧ A.length ≤ 8 ∧ few 20 A ∧ cs.length ≤ 40 ∧ pl.ShortC cs ∧ ∃ p', p' ≤ q ∧ Rdr B g n c p' ao w' ∧ w.grownBy w' (some g)

set_option maxHeartbeats 16000000 in
theorem someChanges_any (B g n c p : Nat) (ao : Option Addr) (w : World) (h : Rdr B g n c p ao w) (hp : p ≤ 700000) :
    Calls Try.prog 67 #[.pointer (some ⟨g, 0, none⟩)] w (GotCh (p + 60) B g n c ao w) := by
  have hgw := h.lt
  have hBg := h.above
  go_enter Try.func67, Try.ntmps67
  go_wp2_with fail
  refine (twoTexts_any B g n c p ao _ h (by omega)).mono ?_
  rintro e w1 ⟨va, vb, A, Bl, rfl, hq, p1, hp1, hR1, hg1⟩
  obtain ⟨qa, qb, _, qla, qlb, qfa, qfb⟩ := hq
  obtain ⟨D, HD⟩ : ∃ D, Hid (w.heap.size = D) := ⟨_, Lib.hid rfl⟩
  have hgD : g < D := by rw [← HD.out]; exact hgw
  have hD1 : D ≤ w1.heap.size := by rw [← HD.out]; exact hg1.size
  unfold GotCh
  rw [HD.out] at qa qb
  have HA := Lib.hid qa
  have HB := Lib.hid qb
  have HFA := Lib.hid qfa
  have HFB := Lib.hid qfb
  have HG := Lib.hid hg1
  have HR := Lib.hid hR1
  have hLA : A.length ≤ maxLen := by unfold maxLen; omega
  have hLB : Bl.length ≤ maxLen := by unfold maxLen; omega
  have HZA : Hid (∀ i, i < A.length → (nth A i).size ≤ maxLen) := Lib.hid (fun i hi => by have := qfa i hi; unfold maxLen; omega)
  have HZB : Hid (∀ i, i < Bl.length → (nth Bl i).size ≤ maxLen) := Lib.hid (fun i hi => by have := qfb i hi; unfold maxLen; omega)
  have HAL : Hid (∀ k, va.ownBlock = some k → k < w1.heap.size) := Lib.hid (fun k hk => (World.ownsRow.lt qa k hk).2)
  clear qa qb qfa qfb hg1 hR1 h hgw
  go_wp2_with fail
  refine (sChangesOf_any A Bl va vb _ HA.out.reads HB.out.reads hLA HZA.out hLB HZB.out).mono ?_
  rintro e w2 ⟨v, rfl, ho, hb2⟩
  obtain ⟨cs, HCS⟩ : ∃ cs, Hid (pl.chgR A Bl = cs) := ⟨_, Lib.hid rfl⟩
  have HS : Hid (pl.ShortC cs) := Lib.hid (by rw [← HCS.out]; exact pl.chgR_short A Bl)
  have hcl : cs.length ≤ 40 := by rw [← HCS.out]; exact pl.chgR_len A Bl
  rw [HCS.out] at ho
  have HO := Lib.hid ho
  replace HA := Lib.hid (HA.out.below (Nat.le_refl _) hb2)
  replace HG := Lib.hid (grown_then HG.out (hb2.mono (by rw [HD.out]; exact hD1)))
  replace HR := Lib.hid (HR.out.below (C := w1.heap.size) (by omega) (by omega) hb2)
  obtain ⟨E1, HE1⟩ : ∃ E, Hid (w1.heap.size = E) := ⟨_, Lib.hid rfl⟩
  rw [HE1.out] at HO HAL hD1
  have hE2 : E1 ≤ w2.heap.size := by rw [← HE1.out]; exact hb2.size
  obtain ⟨a0, c0, rfl⟩ := ho.reads.slice
  obtain ⟨m, HM⟩ : ∃ m, Hid (m = cs.length) := ⟨_, Lib.hid rfl⟩
  rw [← HM.out] at HO hcl ⊢
  clear ho hb2 HB HFB HZB hLB qlb HCS
  by_cases h0 : 0 < m
  · have h0i : (0 : Int) < (m : Int) := by omega
    go_wp2_with fail
    refine (pick_any 5 B g n c _ ao _ HR.out (by omega) (by omega)).mono ?_
    rintro e w3 ⟨r, rfl, hr0, hr1, hR3, hg3⟩
    replace HO := Lib.hid (HO.out.read hg3 (by omega))
    replace HA := Lib.hid (HA.out.read hg3 hgD)
    replace HG := Lib.hid (grown_tr HG.out hg3)
    replace hE2 : E1 ≤ w3.heap.size := Nat.le_trans hE2 hg3.size
    replace HR := Lib.hid hR3
    clear hg3 hR3
    by_cases c3 : r = 0
    · subst c3
      go_wp2_with fail
      refine (pick_any m B g n c _ ao _ HR.out (by omega) (by omega)).mono ?_
      rintro e w4 ⟨k, rfl, hk0, hk1, hR4, hg4⟩
      obtain ⟨k, rfl⟩ := Int.eq_ofNat_of_zero_le hk0
      have hlt : k < m := by have := hk1 (by omega); omega
      replace HO := Lib.hid (HO.out.read hg4 (by omega))
      replace HA := Lib.hid (HA.out.read hg4 hgD)
      replace HG := Lib.hid (grown_tr HG.out hg4)
      replace hE2 : E1 ≤ w4.heap.size := Nat.le_trans hE2 hg4.size
      replace HR := Lib.hid hR4
      clear hg4 hR4
      go_wp2_with fail
      refine (one_lit (-1) 3 5 _ rfl (by omega) (by omega) ?_ B g n c _ ao _ HR.out (by omega)).mono ?_
      · simp [okInts]
      rintro e w5 ⟨x, rfl, hx0, hx1, p5, hp5, hR5, hg5⟩
      replace HO := Lib.hid (HO.out.read hg5 (by omega))
      replace HA := Lib.hid (HA.out.read hg5 hgD)
      replace HG := Lib.hid (grown_tr HG.out hg5)
      replace hE2 : E1 ≤ w5.heap.size := Nat.le_trans hE2 hg5.size
      replace HR := Lib.hid hR5
      clear hg5 hR5
      have HW := Lib.hid (HO.out.w hE2)
      obtain ⟨b, o, rfl, hb1, hb2, hb3, c1, c2, f1, f2⟩ := HW.out.at HM.out hlt
      obtain ⟨hs1, hs2⟩ := HW.out.set0 HM.out hlt x
      have HRC := Lib.hid hs1.reads
      have hlc : k < cs.length := by rw [← HM.out]; exact hlt
      have HS2 := Lib.hid (HS.out.set hlc x)
      have hbw : Below D w5 (w5.setCell ⟨b, o + k * 2, none⟩ (.int .i64 x)) := below_of_grown hs2 (by omega) (fun g hg => by cases hg; omega)
      have HA6 := Lib.hid (HA.out.other hs2 HAL.out hb1)
      have HG6 := Lib.hid (grown_then HG.out (hbw.mono (Nat.le_of_eq HD.out)))
      have HR6 := Lib.hid (HR.out.below (C := D) (by omega) hgD hbw)
      have hcl2 : (cs.set k (x, (pl.nthH cs k).2)).length ≤ 40 := by rw [List.length_set, ← HM.out]; exact hcl
      have HCL2 := Lib.hid hcl2
      clear hs1 hs2 hbw hlc hcl2
      go_wp2_with fail
      go_ret2
      exact ⟨_, _, A, _, rfl, by rw [HD.out]; exact HA6.out, HRC.out, qla, HFA.out, HCL2.out, HS2.out, _, by omega, HR6.out, HG6.out⟩
    · have c3' : (r == 0) = false := by simp [c3]
      have HRC := Lib.hid HO.out.reads
      go_wp2_with fail
      go_ret2
      exact ⟨_, _, A, cs, rfl, by rw [HD.out]; exact HA.out, HRC.out, qla, HFA.out, by rw [← HM.out]; exact hcl, HS.out, _, by omega, HR.out, HG.out⟩
  · obtain rfl : m = 0 := by omega
    have HRC := Lib.hid HO.out.reads
    go_wp2_with fail
    go_ret2
    exact ⟨_, _, A, cs, rfl, by rw [HD.out]; exact HA.out, HRC.out, qla, HFA.out, by rw [← HM.out]; exact hcl, HS.out, _, by omega, HR.out, HG.out⟩

theorem dApplyChanges_any (a : Option Addr) (len cap : Nat) (zs : List Int) (w : World) (hr : IsRow .u8 w a len cap zs) :
    Calls Try.prog 25 #[.slice a len cap] w fun e w' => ∃ va v A cs, e = .returned (.tuple #[va, v]) ∧ OStrs w.heap.size w' va A ∧ RCh w' v cs ∧ A.length ≤ 8 ∧ few 20 A ∧ cs.length ≤ 40 ∧ pl.ShortC cs ∧ Below w.heap.size w w' := by
  go_enter Try.func25, Try.ntmps25
  go_wp2_with fail
  refine (newReader_any a len cap zs _ hr).mono ?_
  rintro e w1 ⟨n, c, rfl, hR, hb1⟩
  go_wp2_with fail
  refine (someChanges_any _ _ n c 0 a _ hR (by omega)).mono ?_
  rintro e w2 ⟨va, v, A, cs, rfl, hq, hrc, q1, q2, q3, q4, p2, _, _, hg⟩
  have HB := Lib.hid (hb1.grown hg hb1.size (fun k hk => by cases hk; exact Nat.le_refl _))
  have HQ := Lib.hid (hq.mono hb1.size)
  have HRC := Lib.hid hrc
  have HF := Lib.hid q2
  have HS := Lib.hid q4
  clear hb1 hg hR hq hrc q2 q4
  go_wp2_with fail
  go_ret2
  exact ⟨va, v, A, cs, rfl, HQ.out, HRC.out, q1, HF.out, q3, HS.out, HB.out⟩

theorem dTurnChanges_any (a : Option Addr) (len cap : Nat) (zs : List Int) (w : World) (hr : IsRow .u8 w a len cap zs) :
    Calls Try.prog 29 #[.slice a len cap] w fun e w' => ∃ v cs, e = .returned v ∧ RCh w' v cs ∧ cs.length ≤ 40 ∧ pl.ShortC cs ∧ Below w.heap.size w w' := by
  go_enter Try.func29, Try.ntmps29
  go_wp2_with fail
  refine (newReader_any a len cap zs _ hr).mono ?_
  rintro e w1 ⟨n, c, rfl, hR, hb1⟩
  go_wp2_with fail
  refine (someChanges_any _ _ n c 0 a _ hR (by omega)).mono ?_
  rintro e w2 ⟨va, v, A, cs, rfl, hq, hrc, q1, q2, q3, q4, p2, _, _, hg⟩
  have HB := Lib.hid (hb1.grown hg hb1.size (fun k hk => by cases hk; exact Nat.le_refl _))
  have HRC := Lib.hid hrc
  have HS := Lib.hid q4
  clear hb1 hg hR hq hrc q2 q4
  go_wp2_with fail
  go_ret
  exact ⟨v, cs, rfl, HRC.out, q3, HS.out, HB.out⟩
end Go.Proofs.Ytckfpneooknifaa
