/- The walk of FnValidWords. -/
import Derived.Test.YtckfpneooknifaaWordsV
import Derived.Test.YtckfpneooknifaaDrawS
import Derived.Test.YtckfpneooknifaaWords
import Derived.Test.YtckfpneooknifaaEq
import Derived.Test.YtckfpneooknifaaJoin
import Derived.Test.YtckfpneooknifaaBytes
import Derived.Test.YtckfpneooknifaaPkB
import Derived.Test.YtckfpneooknifaaPlainZ
namespace Go.Proofs.Ytckfpneooknifaa
open Go.RowKit
set_option maxRecDepth 100000
set_option linter.unusedVariables false

namespace pl
theorem vw_size : ∀ (n : Nat) (g : List ByteArray), g.length = n → (∀ x ∈ g, x.size ≤ 12) → szJ g ≤ 13 * n
  | 0, g, hg, _ => by
    have : g = [] := List.length_eq_zero_iff.1 hg
    subst this
    exact Nat.le_refl _
  | n + 1, g, hg, h => by
    have hne : g ≠ [] := by rintro rfl; simp at hg
    obtain ⟨r, x, rfl⟩ : ∃ r x, g = r ++ [x] := ⟨g.dropLast, g.getLast hne, (List.dropLast_concat_getLast hne).symm⟩
    have hr : r.length = n := by simpa using hg
    have ih := vw_size n r hr (fun y hy => h y (List.mem_append_left _ hy))
    have hx := h x (List.mem_append_right _ (List.mem_singleton_self x))
    by_cases h0 : r = []
    · subst h0; rw [List.nil_append, szJ_one]; omega
    · rw [szJ_snoc h0]; omega
theorem vw_mem {l : List ByteArray} (h : vWords l = true) : ∀ x ∈ l, wordOK x = true := by
  unfold vWords at h
  rw [Bool.and_eq_true, List.all_eq_true] at h
  exact h.1
theorem vw_szJ {l : List ByteArray} (h : vWords l = true) : szJ l ≤ 117 := by
  have h1 := vw_size l.length l rfl (fun x hx => (wordOK_parts (vw_mem h x hx)).2.1)
  have := (vWords_parts h).1
  omega
theorem vw_words {g : List ByteArray} (hv : vWords g = true) : wordsOf (joinB g ⟨#[32]⟩) = g := by
  have h := vw_mem hv
  have hd : (joinB g ⟨#[32]⟩).data.toList = Lib.join (toL g) [32] := rfl
  have hs : (joinB g ⟨#[32]⟩).size ≤ 120 := Nat.le_trans (vw_szJ hv) (by omega)
  have hval : validT (joinB g ⟨#[32]⟩).data.toList = true := by
    unfold validT
    have ha : (joinB g ⟨#[32]⟩).data.toList.all plainB = true := by
      rw [hd]
      refine join_all plainB (by decide) _ (fun y hy => ?_)
      obtain ⟨x, hx, rfl⟩ := List.mem_map.1 hy
      rw [List.all_eq_true]
      intro c hc
      exact (wb_plain ((List.all_eq_true.1 (wordOK_parts (h x hx)).2.2) c hc)).1
    rw [ha, decide_eq_true (by rw [len_eq]; exact hs)]; rfl
  rw [wordsOf_ok hval]
  unfold wordsB
  rw [hd, wordsL_join (fun y hy => by
    obtain ⟨x, hx, rfl⟩ := List.mem_map.1 hy
    exact word_good (h x hx))]
  unfold toL
  rw [List.map_map]
  have : (bs ∘ fun x : ByteArray => x.data.toList) = id := by funext x; exact bs_self x
  rw [this, List.map_id]
end pl

theorem equalTexts_vw (l l2 : List ByteArray) (he : l = l2) (va vb : Value) (w : World) (hA : RStrs w va l) (hB : RStrs w vb l2) (hl : l.length ≤ 2000000) :
    Calls Try.prog 19 #[va, vb] w fun e w' => e = .returned (.bool true) ∧ Below w.heap.size w w' :=
  (equalTexts_any l l2 va vb w hA hB hl).mono fun e w' ⟨h1, h2⟩ => ⟨by rw [h1]; simp [he], h2⟩

theorem dValidWords_any (a : Option Addr) (len cap : Nat) (zs : List Int) (w : World) (hr : IsRow .u8 w a len cap zs) :
    Calls Try.prog 16 #[.slice a len cap] w fun e w' => ∃ v l, e = .returned v ∧ OStrs w.heap.size w' v l ∧ l.length ≤ 10 ∧ few 20 l ∧ Below w.heap.size w w' := by
  go_enter Try.func16, Try.ntmps16
  go_wp2_with fail
  refine (newReader_any a len cap zs _ hr).mono ?_
  rintro e w1 ⟨n, c, rfl, hR, hb1⟩
  go_wp2_with fail
  refine (someWords_any _ _ n c 0 a _ hR (by omega)).mono ?_
  rintro e w2 ⟨v, l, rfl, hq, hl, hf, p2, _, _, hg⟩
  have HB := Lib.hid (hb1.grown hg hb1.size (fun k hk => by cases hk; exact Nat.le_refl _))
  have HQ := Lib.hid (hq.mono hb1.size)
  clear hb1 hg hR hq
  go_wp2_with fail
  go_ret
  exact ⟨v, l, rfl, HQ.out, hl, hf, HB.out⟩

set_option maxHeartbeats 4000000 in
theorem fnValidWords_walk (a : Option Addr) (len cap : Nat) (zs : List Int) (w : World) (hr : IsRow .u8 w a len cap zs) :
    Calls Try.prog 3 #[.slice a len cap] w fun e w' => e = .returned (.bool true) ∧ Below w.heap.size w w' := by
  have hlen := row_len hr
  by_cases hb : 1048576 < len
  · go_enter Try.func3, Try.ntmps3
    go_wp2
    go_ret
    exact ⟨rfl, Below.refl _ _⟩
  · go_enter Try.func3, Try.ntmps3
    go_wp2_with fail
    refine (dValidWords_any a len cap zs _ hr).mono ?_
    rintro e w1 ⟨v, l, rfl, hq, hl, hf, hb1⟩
    have HQ := Lib.hid hq
    have HB1 := Lib.hid hb1
    have HL : Hid (l.length ≤ maxLen) := Lib.hid (by unfold maxLen; omega)
    have HZ : Hid (∀ i, i < l.length → (nth l i).size ≤ maxLen) := Lib.hid (fun i hi => by have := hf i hi; unfold maxLen; omega)
    have HR := Lib.hid hq.reads
    clear hq hb1 hf
    go_wp2_with fail
    refine (iValidWords_any l v _ HR.out HL.out HZ.out).mono ?_
    rintro e w2 ⟨rfl, hb2⟩
    have HB2 := Lib.hid (HB1.out.trans (hb2.mono HB1.out.size))
    have HR2 := Lib.hid (HR.out.below (Nat.le_refl _) hb2)
    clear hb2
    cases hv : pl.vWords l with
    | false =>
      have HV := Lib.hid hv
      clear hv
      go_wp2_with fail
      refine (sValidWords_any l v _ HR2.out HL.out HZ.out).mono ?_
      rintro e w' ⟨rfl, rfl⟩
      rw [HV.out]
      go_wp2_with fail
      refine (sValidWords_any l v _ HR2.out HL.out HZ.out).mono ?_
      rintro e w' ⟨rfl, rfl⟩
      rw [HV.out]
      go_wp2_with fail
      go_ret
      exact ⟨rfl, HB2.out⟩
    | true =>
      have HV := Lib.hid hv
      have HJ : Hid (pl.szJ l ≤ 117) := Lib.hid (pl.vw_szJ hv)
      have HW := Lib.hid (pl.vw_words hv)
      obtain ⟨J, hJ⟩ : ∃ J, Hid (pl.joinB l ⟨#[32]⟩ = J) := ⟨_, Lib.hid rfl⟩
      have hJs : J.size ≤ 117 := by rw [← hJ.out]; exact HJ.out
      rw [hJ.out] at HW
      clear hv
      go_wp2_with fail
      refine (sValidWords_any l v _ HR2.out HL.out HZ.out).mono ?_
      rintro e w' ⟨rfl, rfl⟩
      rw [HV.out]
      go_wp2_with fail
      refine (joined_any l ⟨#[32]⟩ v _ HR2.out (by have := HL.out; omega) (by rw [hJ.out]; omega)).mono ?_
      rintro e w' ⟨rfl, rfl⟩
      rw [hJ.out]
      go_wp2_with fail
      refine (iWordsOf_any J _ (by unfold maxLen; omega)).mono ?_
      rintro e w3 ⟨u, rfl, hu, hb3⟩
      have HU := Lib.hid hu.reads
      have HB3 := Lib.hid (HB2.out.trans (hb3.mono HB2.out.size))
      have HR3 := Lib.hid (HR2.out.below (Nat.le_refl _) hb3)
      clear hb3 hu
      go_wp2_with fail
      refine (equalTexts_vw _ _ HW.out _ _ _ HU.out HR3.out (by rw [HW.out]; omega)).mono ?_
      rintro e w4 ⟨rfl, hb4⟩
      have HB4 := Lib.hid (HB3.out.trans (hb4.mono HB3.out.size))
      clear hb4
      go_wp2_with fail
      go_ret
      exact ⟨rfl, HB4.out⟩
end Go.Proofs.Ytckfpneooknifaa
