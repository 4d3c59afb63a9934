/- Plain facts: the least costs, piece by piece. -/
import Derived.Test.YtfajllfedhifkaaPlainX
import Derived.Test.YtfajllfedhifkaaPlainD
import Derived.Test.YtfajllfedhifkaaFuller
namespace Go.Proofs.Ytfajllfedhifkaa
open Go.RowKit
set_option maxRecDepth 100000
namespace pl
/-- what is left to do in the search for the least cost of the words behind i -/
def remC (wd : Int) (l : List ByteArray) (i k : Nat) (b : Int) : Int := if k ≤ l.length then lC wd (pc l i k) (l.drop k) b else b
theorem remC_start {wd : Int} {l : List ByteArray} {i : Nat} (h : i < l.length) : remC wd l i (i + 1) (-1) = lF wd (l.drop i) := by
  unfold remC
  rw [if_pos (by omega), pc_one h, drop_nth h]; rfl
theorem remC_no {wd : Int} {l : List ByteArray} {i k : Nat} {b : Int} (h : fitL wd (pc l i k) = false) : remC wd l i k b = b := by
  unfold remC
  split
  · rw [lC_no h]
  · rfl
theorem remC_end {wd : Int} {l : List ByteArray} {i : Nat} {b : Int} : remC wd l i (l.length + 1) b = b := by
  unfold remC; rw [if_neg (by omega)]
theorem remC_step {wd : Int} {l : List ByteArray} {i k : Nat} {b : Int} (hik : i ≤ k) (hk : k < l.length) (h : fitL wd (pc l i k) = true) : remC wd l i k b = remC wd l i (k + 1) (upd b (lF wd (l.drop k) + sqL wd (pc l i k))) := by
  unfold remC
  rw [if_pos (by omega), if_pos (by omega), drop_nth hk, lC_cons h, ← drop_nth hk, pc_succ hik hk]
theorem remC_last {wd : Int} {l : List ByteArray} {i : Nat} {b : Int} (h : fitL wd (pc l i l.length) = true) : remC wd l i l.length b = remC wd l i (l.length + 1) (upd b 0) := by
  unfold remC
  rw [if_pos (Nat.le_refl _), if_neg (by omega), drop_end, lC_nil h]
theorem allFit_of {wd : Int} {l : List ByteArray} (h : shortAll l wd = true) : allFit wd l := by
  intro x hx
  obtain ⟨i, hi, rfl⟩ := mem_nth hx
  unfold fitL
  rw [szJ_one]
  exact decide_eq_true (shortAll_parts h i hi)
theorem costG_bound {wd : Int} {gs : Gs} {l : List ByteArray} (h2 : wd ≤ 120) (hw : isWay wd l gs) : 0 ≤ costG wd gs ∧ costG wd gs ≤ 14400 * l.length := by
  have h := costTo_bound (wd := wd) (z := rz (rowsG 0 gs)) h2 (gs.length - 1) (fun i hi => ⟨by unfold rz; omega, rz_fit hw.2.2 i (by rw [rowsG_len]; omega)⟩)
  rw [cost_rows] at h
  have := flat_len hw.1 hw.2.1
  omega
theorem lF_bound {wd : Int} {l : List ByteArray} (h2 : wd ≤ 120) (h9 : l.length ≤ 9) (hall : allFit wd l) : 0 ≤ lF wd l ∧ lF wd l ≤ 129600 := by
  obtain ⟨h3, _, w, hw, hc⟩ := lF_facts hall
  have := costG_bound h2 hw
  omega
/-- what the numbers tell behind the words from j on -/
def CsInv (wd : Int) (l : List ByteArray) (j : Nat) (zs : List Int) : Prop := zs.length = l.length + 1 ∧ ∀ t, j ≤ t → t ≤ l.length → zs[t]? = some (lF wd (l.drop t))
def CsIn (wd : Int) (l : List ByteArray) (i k : Nat) (b : Int) (zs : List Int) : Prop := zs.length = l.length + 1 ∧ (∀ t, i + 1 ≤ t → t ≤ l.length → zs[t]? = some (lF wd (l.drop t))) ∧ zs[i]? = some b ∧ remC wd l i k b = lF wd (l.drop i)
theorem csin_done {wd : Int} {l : List ByteArray} {i k : Nat} {b : Int} {zs : List Int} (h : CsIn wd l i k b zs) (hr : remC wd l i k b = b) : CsInv wd l i zs := by
  obtain ⟨h1, h2, h4, h5⟩ := h
  refine ⟨h1, fun t ht1 ht2 => ?_⟩
  by_cases e : t = i
  · subst e; rw [h4, ← h5, hr]
  · exact h2 t (by omega) ht2
theorem csin_start {wd : Int} {l : List ByteArray} {i : Nat} {zs : List Int} (h : CsInv wd l (i + 1) zs) (hi : i < l.length) : CsIn wd l i (i + 1) (-1) (zs.set i (-1)) :=
  ⟨by rw [List.length_set]; exact h.1, fun t h1 h2 => by rw [List.getElem?_set_ne (by omega)]; exact h.2 t h1 h2, by rw [List.getElem?_set_self (by rw [h.1]; omega)], remC_start hi⟩
theorem csin_set {wd : Int} {l : List ByteArray} {i k : Nat} {b b' : Int} {zs : List Int} (h : CsIn wd l i k b zs) (hi : i < l.length) (hr : remC wd l i (k + 1) b' = remC wd l i k b) : CsIn wd l i (k + 1) b' (zs.set i b') :=
  ⟨by rw [List.length_set]; exact h.1, fun t h1 h2 => by rw [List.getElem?_set_ne (by omega)]; exact h.2.1 t h1 h2, by rw [List.getElem?_set_self (by rw [h.1]; omega)], by rw [hr]; exact h.2.2.2⟩
theorem csin_keep {wd : Int} {l : List ByteArray} {i k : Nat} {b : Int} {zs : List Int} (h : CsIn wd l i k b zs) (hr : remC wd l i (k + 1) b = remC wd l i k b) : CsIn wd l i (k + 1) b zs :=
  ⟨h.1, h.2.1, h.2.2.1, by rw [hr]; exact h.2.2.2⟩
end pl

/-- what the model asks of one line more: c is the cost, and this is what stands there -/
theorem cs_step {wd : Int} {l : List ByteArray} {i k : Nat} {b c : Int} (hik : i < k) (hk : k ≤ l.length) (hf : pl.fitL wd (pl.pc l i k) = true) (hc : c = if k = l.length then 0 else pl.lF wd (l.drop k) + pl.sqL wd (pl.pc l i k)) :
    pl.remC wd l i (k + 1) (pl.upd b c) = pl.remC wd l i k b := by
  by_cases e : k = l.length
  · subst e
    rw [if_pos rfl] at hc
    rw [hc, pl.remC_last hf]
  · rw [if_neg e] at hc
    rw [hc, pl.remC_step (by omega) (by omega) hf]
end Go.Proofs.Ytfajllfedhifkaa
