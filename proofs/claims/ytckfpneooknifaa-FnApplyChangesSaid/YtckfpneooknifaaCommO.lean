/- Contracts: the model's CommonOf, changes, ChangesOf. -/
import Derived.Test.YtckfpneooknifaaCommS
import Derived.Test.YtckfpneooknifaaChO
namespace Go.Proofs.Ytckfpneooknifaa
open Go.RowKit
set_option maxRecDepth 100000
set_option linter.unusedVariables false

namespace pl
def commR (a b : List ByteArray) : Int := if validLs a = true ∧ validLs b = true then (lcs a b : Int) else -1
theorem commR_yes {a b : List ByteArray} (h1 : validLs a = true) (h2 : validLs b = true) : commR a b = lcs a b := by unfold commR; rw [if_pos ⟨h1, h2⟩]
theorem commR_no {a b : List ByteArray} (h : validLs a = false ∨ validLs b = false) : commR a b = -1 := by
  unfold commR
  rw [if_neg]
  rintro ⟨h1, h2⟩
  rcases h with h | h
  · rw [h] at h1; cases h1
  · rw [h] at h2; cases h2
def chgR (a b : List ByteArray) : List Ch := if validLs a = true ∧ validLs b = true then chg a b else []
theorem chgR_yes {a b : List ByteArray} (h1 : validLs a = true) (h2 : validLs b = true) : chgR a b = chg a b := by unfold chgR; rw [if_pos ⟨h1, h2⟩]
theorem chgR_no {a b : List ByteArray} (h : validLs a = false ∨ validLs b = false) : chgR a b = [] := by
  unfold chgR
  rw [if_neg]
  rintro ⟨h1, h2⟩
  rcases h with h | h
  · rw [h] at h1; cases h1
  · rw [h] at h2; cases h2
theorem chg_len (a b : List ByteArray) : (chg a b).length ≤ a.length + b.length := by have := (app_chg a b).2.2; omega
theorem chgR_len (a b : List ByteArray) : (chgR a b).length ≤ 40 := by
  unfold chgR
  split
  · rename_i h
    have h1 := validLs_len h.1
    have h2 := validLs_len h.2
    have := chg_len a b
    omega
  · exact Nat.zero_le _
theorem chg_here (a b : List ByteArray) : chgAt a b 0 0 = chg a b := rfl
/-- the changes made so far, those to come, and how many they may be -/
def ChSt (a b : List ByteArray) (i k : Nat) (L : List Ch) : Prop := chg a b = L ++ chgAt a b i k ∧ L.length ≤ i + k
theorem chst_start (a b : List ByteArray) : ChSt a b 0 0 [] := ⟨rfl, Nat.le_refl _⟩
theorem chst_keep {a b : List ByteArray} {i k : Nat} {L : List Ch} {x : ByteArray} (h : ChSt a b i k L) (hi : i < a.length) (hk : k < b.length) (h1 : nth a i = x) (h2 : nth b k = x) : ChSt a b (i + 1) (k + 1) (L ++ [(0, x)]) := by
  refine ⟨by rw [h.1, chgAt_keep hi hk (h1.trans h2.symm), h1]; simp, ?_⟩
  have := h.2
  rw [List.length_append, List.length_singleton]; omega
theorem chst_left {a b : List ByteArray} {i k : Nat} {L : List Ch} {x : ByteArray} (h : ChSt a b i k L) (hi : i < a.length) (hk : b.length ≤ k) (h1 : nth a i = x) : ChSt a b (i + 1) k (L ++ [(1, x)]) := by
  refine ⟨by rw [h.1, chgAt_left hi hk, h1]; simp, ?_⟩
  have := h.2
  rw [List.length_append, List.length_singleton]; omega
theorem chst_right {a b : List ByteArray} {i k : Nat} {L : List Ch} {y : ByteArray} (h : ChSt a b i k L) (hi : a.length ≤ i) (hk : k < b.length) (h1 : nth b k = y) : ChSt a b i (k + 1) (L ++ [(2, y)]) := by
  refine ⟨by rw [h.1, chgAt_right hi hk, h1]; simp, ?_⟩
  have := h.2
  rw [List.length_append, List.length_singleton]; omega
theorem chst_drop {a b : List ByteArray} {i k : Nat} {L : List Ch} {x y : ByteArray} (h : ChSt a b i k L) (hi : i < a.length) (hk : k < b.length) (h1 : nth a i = x) (h2 : nth b k = y) (e : ¬ x = y) (hc : tabC a b i (k + 1) ≤ tabC a b (i + 1) k) : ChSt a b (i + 1) k (L ++ [(1, x)]) := by
  refine ⟨by rw [h.1, chgAt_drop hi hk (by rw [h1, h2]; exact e) hc, h1]; simp, ?_⟩
  have := h.2
  rw [List.length_append, List.length_singleton]; omega
theorem chst_add {a b : List ByteArray} {i k : Nat} {L : List Ch} {x y : ByteArray} (h : ChSt a b i k L) (hi : i < a.length) (hk : k < b.length) (h1 : nth a i = x) (h2 : nth b k = y) (e : ¬ x = y) (hc : ¬ tabC a b i (k + 1) ≤ tabC a b (i + 1) k) : ChSt a b i (k + 1) (L ++ [(2, y)]) := by
  refine ⟨by rw [h.1, chgAt_add hi hk (by rw [h1, h2]; exact e) hc, h2]; simp, ?_⟩
  have := h.2
  rw [List.length_append, List.length_singleton]; omega
theorem chst_done {a b : List ByteArray} {i k : Nat} {L : List Ch} (h : ChSt a b i k L) (hi : a.length ≤ i) (hk : b.length ≤ k) : L = chg a b := by rw [h.1, chgAt_end hi hk, List.append_nil]
end pl

set_option maxHeartbeats 4000000 in
theorem sCommonOf_any (a b : List ByteArray) (va vb : Value) (w : World) (ha : RStrs w va a) (hb : RStrs w vb b) (hla : a.length ≤ maxLen) (hza : ∀ i, i < a.length → (nth a i).size ≤ maxLen) (hlb : b.length ≤ maxLen) (hzb : ∀ i, i < b.length → (nth b i).size ≤ maxLen) :
    Calls Try.prog 24 #[va, vb] w fun e w' => e = .returned (.int .i64 (pl.commR a b)) ∧ Below w.heap.size w w' := by
  have HA := Lib.hid ha
  have HB := Lib.hid hb
  have HLA := Lib.hid hla
  have HZA := Lib.hid hza
  have HLB := Lib.hid hlb
  have HZB := Lib.hid hzb
  clear ha hb hla hza hlb hzb
  cases hva : pl.validLs a with
  | false =>
    have HE := Lib.hid (pl.commR_no (b := b) (.inl hva))
    have HVA := Lib.hid hva
    clear hva
    go_enter Try.func24, Try.ntmps24
    go_wp2_with fail
    refine (svalidLines_any a va _ HA.out HLA.out HZA.out).mono ?_
    rintro e w' ⟨rfl, rfl⟩
    rw [HVA.out]
    go_wp2_with fail
    go_ret
    exact ⟨by rw [HE.out]; rfl, Below.refl _ _⟩
  | true =>
  cases hvb : pl.validLs b with
  | false =>
    have HE := Lib.hid (pl.commR_no (a := a) (.inr hvb))
    have HVA := Lib.hid hva
    have HVB := Lib.hid hvb
    clear hva hvb
    go_enter Try.func24, Try.ntmps24
    go_wp2_with fail
    refine (svalidLines_any a va _ HA.out HLA.out HZA.out).mono ?_
    rintro e w' ⟨rfl, rfl⟩
    rw [HVA.out]
    go_wp2_with fail
    refine (svalidLines_any b vb _ HB.out HLB.out HZB.out).mono ?_
    rintro e w' ⟨rfl, rfl⟩
    rw [HVB.out]
    go_wp2_with fail
    go_ret
    exact ⟨by rw [HE.out]; rfl, Below.refl _ _⟩
  | true =>
    have HE := Lib.hid (pl.commR_yes hva hvb)
    have HVA := Lib.hid hva
    have HVB := Lib.hid hvb
    have hl1 := pl.validLs_len hva
    have hl2 := pl.validLs_len hvb
    clear hva hvb
    go_enter Try.func24, Try.ntmps24
    go_wp2_with fail
    refine (svalidLines_any a va _ HA.out HLA.out HZA.out).mono ?_
    rintro e w' ⟨rfl, rfl⟩
    rw [HVA.out]
    go_wp2_with fail
    refine (svalidLines_any b vb _ HB.out HLB.out HZB.out).mono ?_
    rintro e w' ⟨rfl, rfl⟩
    rw [HVB.out]
    go_wp2_with fail
    refine (scommon_any a b va vb _ HA.out HB.out hl1 hl2).mono ?_
    rintro e w1 ⟨g, cap, gs, f, rfl, hT, hI, hbl⟩
    have HBL := Lib.hid hbl
    have r0 := (hT.rows 0 (by omega)).1
    have d0 := (hT.cells 0 0 (by omega) (by omega)).1
    have hf : f 0 0 = (pl.lcs a b : Int) := hI 0 0 (Nat.zero_le _) (Nat.zero_le _) (.inr (.inl ⟨rfl, Nat.le_refl _⟩))
    rw [hf] at d0
    obtain ⟨V, HV⟩ : ∃ V, Hid ((pl.lcs a b : Int) = V) := ⟨_, Lib.hid rfl⟩
    rw [HV.out] at d0 HE
    obtain ⟨N, HN⟩ : ∃ N : Nat, Hid (a.length = N) := ⟨_, Lib.hid rfl⟩
    obtain ⟨M, HM⟩ : ∃ M : Nat, Hid (b.length = M) := ⟨_, Lib.hid rfl⟩
    rw [HM.out] at r0
    rw [HN.out]
    obtain ⟨G0, HG0⟩ : ∃ G, Hid (gs 0 = G) := ⟨_, Lib.hid rfl⟩
    rw [HG0.out] at r0 d0
    have hn0 : (0 : Int) < (N : Int) + 1 := by omega
    have hm0 : (0 : Int) < (M : Int) + 1 := by omega
    clear hT hI hbl hf
    go_wp2_with fail
    go_ret
    exact ⟨by rw [HE.out]; rfl, HBL.out⟩
end Go.Proofs.Ytckfpneooknifaa
