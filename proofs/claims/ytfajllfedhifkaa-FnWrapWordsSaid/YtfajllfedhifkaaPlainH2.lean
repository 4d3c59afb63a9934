/- Plain facts: lines of words, and what they cost. -/
import Derived.Test.YtfajllfedhifkaaBest
import Derived.Test.YtfajllfedhifkaaAllW
namespace Go.Proofs.Ytfajllfedhifkaa
open Go.RowKit
set_option maxRecDepth 100000
namespace pl
theorem line_valid {g : List ByteArray} (h : ∀ x ∈ g, wordOK x = true) (hs : szJ g ≤ 120) : validT (jline g).data.toList = true := by
  have hd : (jline g).data.toList = Lib.join (toL g) [32] := rfl
  unfold validT
  rw [Bool.and_eq_true]
  refine ⟨?_, decide_eq_true (by rw [len_eq, jline_size]; exact hs)⟩
  rw [hd]
  refine join_all plainB (by decide) _ (fun y hy => ?_)
  obtain ⟨x, hx, rfl⟩ := List.mem_map.1 hy
  rw [List.all_eq_true]
  intro c hc
  exact (wb_plain ((List.all_eq_true.1 (wordOK_parts (h x hx)).2.2) c hc)).1
theorem way_sz {wd : Int} {l : List ByteArray} {e : Gs} (hw : isWay wd l e) : ∀ g ∈ e, (szJ g : Int) ≤ wd := by
  intro g hg
  have := (List.all_eq_true.1 hw.2.2) g hg
  unfold fitL at this
  exact of_decide_eq_true this
theorem way_words {wd : Int} {l : List ByteArray} {e : Gs} (hw : isWay wd l e) (hv : vWords l = true) : ∀ g ∈ e, ∀ x ∈ g, wordOK x = true := by
  intro g hg x hx
  exact vWords_mem hv x (by rw [← hw.1]; exact List.mem_flatten.2 ⟨g, hg, hx⟩)
theorem nth_lines {e : Gs} {i : Nat} (h : i < e.length) : nth (e.map jline) i = jline e[i] := by
  rw [nth_eq (by rw [List.length_map]; exact h), List.getElem_map]
theorem way_lines_le {wd : Int} {l : List ByteArray} {e : Gs} (hw : isWay wd l e) : ∀ i, i < (e.map jline).length → ((nth (e.map jline) i).size : Int) ≤ wd := by
  intro i hi
  rw [List.length_map] at hi
  rw [nth_lines hi, jline_size]
  exact way_sz hw _ (List.getElem_mem hi)
theorem cost_lines {wd : Int} {l : List ByteArray} {e : Gs} (hw : isWay wd l e) (hf : fitA l wd = true) : costR (e.map jline) wd = costG wd e := by
  have hp := fitA_parts hf
  have hel := flat_len hw.1 hw.2.1
  have h9 := (vWords_parts hp.2.1).1
  have hv : validLs (e.map jline) = true := by
    have h1 : okTo (e.map jline) (e.map jline).length := by
      intro i hi
      rw [List.length_map] at hi
      rw [nth_lines hi]
      have hm := List.getElem_mem hi
      exact line_valid (way_words hw hp.2.1 _ hm) (by have := way_sz hw _ hm; omega)
    rw [validLs_all h1]
    exact decide_eq_true (by rw [List.length_map]; omega)
  rw [costR_yes hv (inR_true hp.2.2.1 hp.2.2.2) (shortAll_yes (way_lines_le hw)), ← cost_rows wd e 0]
  unfold costL
  rw [List.length_map]
  refine costTo_congr _ (fun i hi => ?_)
  have hi2 : i < e.length := by omega
  unfold lsz
  rw [nth_lines hi2, jline_size]
  have h2 := rowsG_get e i _ (List.getElem?_eq_getElem hi2)
  unfold rz
  rw [List.getD_eq_getElem?_getD, h2]; rfl
end pl
theorem equalTexts_eq (l : List ByteArray) (va vb : Value) (w : World) (hA : RStrs w va l) (hB : RStrs w vb l) (hl : l.length ≤ 2000000) :
    Calls Try.prog 19 #[va, vb] w fun e w' => e = .returned (.bool true) ∧ Below w.heap.size w w' :=
  (equalTexts_any l l va vb w hA hB hl).mono fun e w' ⟨h1, h2⟩ => ⟨by rw [h1]; simp, h2⟩
end Go.Proofs.Ytfajllfedhifkaa
