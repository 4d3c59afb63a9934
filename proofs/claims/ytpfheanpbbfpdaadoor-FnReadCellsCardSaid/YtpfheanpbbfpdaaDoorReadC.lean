/- Contract: the program's ReadCells. -/
import Derived.Test.YtpfheanpbbfpdaaDoorQuotC
import Derived.Test.YtpfheanpbbfpdaaDoorCutC
import Derived.Test.YtpfheanpbbfpdaaDoorChangeUc
namespace Go.Proofs.YtpfheanpbbfpdaaDoor
open Go.RowKit
set_option maxRecDepth 100000
set_option linter.unusedVariables false

namespace pl
theorem cellsL_parts {s : ByteArray} {l : List ByteArray} (h : l = (cutQ false [] s.data.toList).map bs) : l.map unqB = cellsL s.data.toList := by
  subst h
  unfold cellsL
  rw [List.map_map]
  refine List.map_congr_left fun a _ => ?_
  show unqB (bs a) = bs (unqC a)
  unfold unqB
  rw [bs_data]
theorem low_not {s : ByteArray} (h : ¬ lowAll s) (l : List ByteArray) : ¬ quoR l = s := by
  intro e
  apply h
  intro i hi
  have hm : s[i] ∈ s.data.toList := by
    have : s[i] = s.data.toList[i]'(by rw [len_eq]; exact hi) := rfl
    rw [this]; exact List.getElem_mem _
  exact quoR_low l _ (by rw [e]; exact hm)
/-- the parts tell whether s is the text of cells -/
theorem rcB_parts {s : ByteArray} {l : List ByteArray} (h : lowAll s → l = (cutQ false [] s.data.toList).map bs) : (quoR (l.map unqB) = s → rcB s = true ∧ rcR s = l.map unqB) ∧ (¬ quoR (l.map unqB) = s → rcB s = false ∧ rcR s = []) := by
  by_cases hl : lowAll s
  · rw [cellsL_parts (h hl)]
    constructor
    · intro e
      have : rcB s = true := decide_eq_true e
      exact ⟨this, by simp [rcR, this]⟩
    · intro e
      have : rcB s = false := decide_eq_false e
      exact ⟨this, by simp [rcR, this]⟩
  · constructor
    · intro e; exact absurd e (low_not hl _)
    · intro _
      have : rcB s = false := decide_eq_false (low_not hl _)
      exact ⟨this, by simp [rcR, this]⟩
theorem unq_sizes {l : List ByteArray} {M : Nat} (h : ∀ i, i < l.length → (nth l i).size ≤ M) : ∀ i, i < (l.map unqB).length → (nth (l.map unqB) i).size ≤ M := by
  intro i hi
  rw [List.length_map] at hi
  rw [nth_eq (by rw [List.length_map]; exact hi), List.getElem_map]
  have h1 := unqB_size l[i]
  have h2 := h i hi
  rw [nth_eq hi] at h2
  omega
end pl

set_option maxHeartbeats 2000000 in
theorem iReadCells_any (s : ByteArray) (w : World) (hs : s.size ≤ 1048576) (hm : MaxI w) :
    Calls Tryd.prog 22 #[.string s] w fun e w' => ∃ v', e = .returned (.tuple #[v', .bool (pl.rcB s)]) ∧ OStrs w.heap.size w' v' (pl.rcR s) ∧ Below w.heap.size w w' := by
  have HM := Lib.hid hm
  clear hm
  go_enter Tryd.func22, Tryd.ntmps22
  go_wp2_with fail
  refine (cutCells_any s _ hs).mono ?_
  rintro e w1 ⟨v1, l, rfl, ho1, hl0, hl1, hls, hcut, hb1⟩
  have HP := Lib.hid (pl.rcB_parts hcut)
  have HO1 := Lib.hid ho1.reads
  have HB1 := Lib.hid hb1
  have HLS := Lib.hid hls
  have HL1 : Hid (l.length ≤ 1048577) := Lib.hid (by omega)
  clear ho1 hb1 hls hcut hl0 hl1
  go_wp2_with fail
  have hA : Below w1.heap.size w1 (w1.alloc (.cells #[.func (.func 68) #[] #[]] 45)) := (Below.refl _ _).alloc (Nat.le_refl _) _
  have hf0 : (w1.alloc (.cells #[.func (.func 68) #[] #[]] 45)).cell? ⟨w1.heap.size, 0, none⟩ = some (.func (.func 68) #[] #[]) := by simp
  refine (changeUc_any l _ w1.heap.size _ (HO1.out.below (Nat.le_refl _) hA) HL1.out (fun i hi => by have := HLS.out i hi; omega) ((HM.out.below (Nat.le_refl _) HB1.out).below (Nat.le_refl _) hA) (by simp) hf0).mono ?_
  rintro e w2 ⟨v2, rfl, ho2, hb2⟩
  have hHL : Hid ((l.map pl.unqB).length ≤ 1048577) := Lib.hid (by rw [List.length_map]; exact HL1.out)
  have hHS : Hid (∀ i, i < (l.map pl.unqB).length → (nth (l.map pl.unqB) i).size ≤ 1048576) := Lib.hid (pl.unq_sizes (fun i hi => by have := HLS.out i hi; omega))
  obtain ⟨c, HC⟩ : ∃ c, Hid (l.map pl.unqB = c) := ⟨_, Lib.hid rfl⟩
  rw [HC.out] at ho2 hHL hHS HP
  have hb2' : Below w1.heap.size w1 w2 := hA.trans (hb2.mono hA.size)
  have HB2 := Lib.hid (HB1.out.trans (hb2'.mono HB1.out.size))
  have HO2 : Hid (OStrs w.heap.size w2 v2 c) := Lib.hid (own_mono ho2 (by have h1 := HB1.out.size; have h2 := hA.size; omega))
  clear hA hf0 hb2 ho2 hb2'
  go_wp2_with fail
  refine (iQuoteCells_any c v2 _ HO2.out.reads hHL.out hHS.out (HM.out.below (Nat.le_refl _) HB2.out)).mono ?_
  rintro e w3 ⟨rfl, hb3⟩
  have HO3 := Lib.hid (HO2.out.below (Nat.le_refl _) hb3)
  have HB3 := Lib.hid (HB2.out.trans (hb3.mono HB2.out.size))
  clear hb3
  obtain ⟨t, HT⟩ : ∃ t, Hid (pl.quoR c = t) := ⟨_, Lib.hid rfl⟩
  rw [HT.out] at HP ⊢
  by_cases ht : t = s
  · have HR := Lib.hid (HP.out.1 ht)
    clear HP HT
    subst ht
    go_wp2_with fail
    go_ret2
    exact ⟨_, by rw [HR.out.1]; rfl, by rw [HR.out.2]; exact HO3.out, HB3.out⟩
  · have HR := Lib.hid (HP.out.2 ht)
    have hne := toList_ne ht
    clear HP HT ht
    go_wp2_with fail
    go_ret2
    exact ⟨_, by rw [HR.out.1]; rfl, by rw [HR.out.2]; exact OStrs.nil _ _, HB3.out⟩
end Go.Proofs.YtpfheanpbbfpdaaDoor
