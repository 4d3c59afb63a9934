/- Plain: lines that flow are told back. -/
import Derived.Test.YtoeejepamlnkkaaPlainZ
import Derived.Test.YtoeejepamlnkkaaFlowS
import Derived.Test.YtoeejepamlnkkaaPlainQ
namespace Go.Proofs.Ytoeejepamlnkkaa.pl
set_option maxRecDepth 100000

theorem fline_good {g : List ByteArray} (h : ∀ x ∈ g, wordOK x = true) : ∀ y ∈ toL g, good y := by
  intro y hy
  obtain ⟨x, hx, rfl⟩ := List.mem_map.1 hy
  exact word_good (h x hx)
theorem fline_plain {g : List ByteArray} (h : ∀ x ∈ g, wordOK x = true) : (jline g).data.toList.all plainB = true := by
  have hd : (jline g).data.toList = Lib.join (toL g) [32] := rfl
  rw [hd]
  refine join_all plainB (by decide) _ (fun y hy => ?_)
  obtain ⟨x, hx, rfl⟩ := List.mem_map.1 hy
  rw [List.all_eq_true]
  intro c hc
  exact (wb_plain ((List.all_eq_true.1 (wordOK_parts (h x hx)).2.2) c hc)).1
theorem fline_valid {g : List ByteArray} (h : ∀ x ∈ g, wordOK x = true) (hs : szJ g ≤ 120) : validT (jline g).data.toList = true := by
  unfold validT
  rw [fline_plain h, decide_eq_true (by rw [len_eq, jline_size]; exact hs)]; rfl
theorem fline_words {g : List ByteArray} (h : ∀ x ∈ g, wordOK x = true) (hs : szJ g ≤ 120) : wordsOf (jline g) = g := by
  have hd : (jline g).data.toList = Lib.join (toL g) [32] := rfl
  rw [wordsOf_ok (fline_valid h hs)]
  unfold wordsB
  rw [hd, wordsL_join (fline_good h)]
  unfold toL
  rw [List.map_map]
  have : (bs ∘ fun x : ByteArray => x.data.toList) = id := by funext x; exact bs_self x
  rw [this, List.map_id]
theorem fgreedy_mem {wd : Int} {l : List ByteArray} {k : Nat} (hk : k ≤ l.length) {g : List ByteArray} (hg : g ∈ greedy wd l k) : g ≠ [] ∧ ∀ x ∈ g, x ∈ l := by
  refine ⟨grW_full _ _ _ g hg, fun x hx => ?_⟩
  have h1 : x ∈ (greedy wd l k).flatten := List.mem_flatten.2 ⟨g, hg, hx⟩
  have h2 : (greedy wd l k).flatten = l.take k := grW_flatten _ _ _ hk
  rw [h2] at h1
  exact List.mem_of_mem_take h1
theorem sp1_data (x : ByteArray) : (x ++ sp1).data.toList = x.data.toList ++ [32] := by
  rw [ByteArray.data_append, Array.toList_append]; rfl
theorem endSp_soft (x : ByteArray) : endSp (x ++ sp1) = true := by
  unfold endSp
  rw [sp1_data]; simp
theorem pad_one (x : ByteArray) : padded 0 x 1 = x ++ sp1 := by
  unfold padded
  rw [sp0_app]; rfl
theorem unfl_par : ∀ (M : List ByteArray) (cur r : List ByteArray), M ≠ [] → (∀ x ∈ M, endSp x = false ∧ wordsOf (x ++ sp1) = wordsOf x) → unfl cur (softL M ++ r) = (cur ++ (M.map wordsOf).flatten) :: unfl [] r
  | [], _, _, h, _ => absurd rfl h
  | [x], cur, r, _, h => by
    rw [softL_one]
    show unfl cur (x :: r) = _
    rw [unfl_hard (.inr (h x (by simp)).1)]; simp
  | x :: y :: t, cur, r, _, h => by
    have hne : softL (y :: t) ++ r ≠ [] := by
      intro e
      have := congrArg List.length e
      rw [List.length_append, softL_len] at this
      simp at this
    rw [softL_cons, List.cons_append, unfl_soft hne (endSp_soft x), (h x (by simp)).2, unfl_par (y :: t) _ r (by simp) (fun z hz => h z (List.mem_cons_of_mem _ hz))]
    simp
structure FLine (x : ByteArray) (wd : Int) : Prop where
  hard : endSp x = false
  words : wordsOf (x ++ sp1) = wordsOf x
  valid : validT x.data.toList = true
  soft : validT (x ++ sp1).data.toList = true
  size : (x.size : Int) ≤ wd
theorem fit_word {p : List ByteArray} {wd : Int} (hf : fitA p wd = true) : ∀ x ∈ p, wordOK x = true := by
  intro x hx
  obtain ⟨i, hi, rfl⟩ := List.getElem_of_mem hx
  rw [← nth_eq hi]; exact (vWords_parts (fitA_parts hf).2.1).2 i hi
theorem flow_line {p : List ByteArray} {wd : Int} (hf : fitA p wd = true) (hw : wd ≤ 119) : ∀ x ∈ wrapB wd p, FLine x wd := by
  intro x hx
  unfold wrapB at hx
  obtain ⟨g, hg, rfl⟩ := List.mem_map.1 hx
  have hs := greedy_fits (wd := wd) (l := p) (fitA_parts hf).1 p.length (Nat.le_refl _) g hg
  have hgw : ∀ x ∈ g, wordOK x = true := fun x hx => fit_word hf x ((fgreedy_mem (Nat.le_refl _) hg).2 x hx)
  have hv := fline_valid hgw (by omega)
  have hz : (jline g).size = szJ g := jline_size g
  refine ⟨?_, ?_, hv, ?_, by rw [hz]; exact hs⟩
  · unfold endSp
    refine decide_eq_false (fun e => ?_)
    have hd : (jline g).data.toList = Lib.join (toL g) [32] := rfl
    rw [hd] at e
    exact join_last (fline_good hgw) e rfl
  · rw [← pad_one]; exact padded_words hv (by omega)
  · rw [← pad_one]; exact padded_valid hv (by omega)
theorem wrap_words {p : List ByteArray} {wd : Int} (hf : fitA p wd = true) (hw : wd ≤ 119) : ((wrapB wd p).map wordsOf).flatten = p := by
  have e : (wrapB wd p).map wordsOf = greedy wd p p.length := by
    unfold wrapB
    rw [List.map_map]
    have h : (greedy wd p p.length).map (wordsOf ∘ jline) = (greedy wd p p.length).map id := by
      refine List.map_congr_left (fun g hg => ?_)
      have hs := greedy_fits (wd := wd) (l := p) (fitA_parts hf).1 p.length (Nat.le_refl _) g hg
      exact fline_words (fun x hx => fit_word hf x ((fgreedy_mem (Nat.le_refl _) hg).2 x hx)) (by omega)
    rw [h, List.map_id]
  rw [e, greedy_flat wd p _ (Nat.le_refl _), List.take_length]
theorem flow_unfl {wd : Int} (hw : wd ≤ 119) : ∀ (ps : Gs), (∀ p ∈ ps, 0 < p.length ∧ fitA p wd = true) → unfl [] ((ps.map fun p => softL (wrapB wd p)).flatten) = ps
  | [], _ => rfl
  | p :: r, h => by
    obtain ⟨h1, h2⟩ := h p (by simp)
    rw [List.map_cons, List.flatten_cons, unfl_par _ _ _ (by
      intro e
      have := wrapB_pos (wd := wd) h1
      rw [e] at this; simp at this) (fun x hx => ⟨(flow_line h2 hw x hx).hard, (flow_line h2 hw x hx).words⟩), wrap_words h2 hw, flow_unfl hw r (fun q hq => h q (List.mem_cons_of_mem _ hq))]
    simp
theorem softL_mem {M : List ByteArray} {x : ByteArray} (h : x ∈ softL M) : ∃ y ∈ M, x = y ∨ x = y ++ sp1 := by
  obtain ⟨i, hi, rfl⟩ := List.getElem_of_mem h
  rw [← nth_eq hi]
  have hi2 : i < M.length := by rw [softL_len] at hi; exact hi
  rw [softL_nth hi2]
  refine ⟨nth M i, by rw [nth_eq hi2]; exact List.getElem_mem _, ?_⟩
  by_cases hm : i + 1 < M.length
  · exact .inr (softF_more hm)
  · exact .inl (softF_last hm)
theorem flow_told {ps : Gs} {wd : Int} (h : flowB ps wd = true) : unflR (flowR ps wd) = ps ∧ ∀ i, i < (flowR ps wd).length → ((nth (flowR ps wd) i).size : Int) ≤ wd + 1 := by
  obtain ⟨hin, hpb, hfit⟩ := flowB_parts h
  have hw : wd ≤ 119 := (inR_parts hin).2
  have hpos := (partsB_parts hpb).1
  have hps : ∀ p ∈ ps, 0 < p.length ∧ fitA p wd = true := by
    intro p hp
    obtain ⟨k, hk, rfl⟩ := List.getElem_of_mem hp
    rw [← nthP_eq hk]
    exact ⟨hpos k hk, hfit k hk⟩
  have e : flowR ps wd = (ps.map fun p => softL (wrapB wd p)).flatten := by
    rw [flowR_yes h]; unfold flowTo; rw [List.take_length]
  have each : ∀ x ∈ flowR ps wd, validT x.data.toList = true ∧ (x.size : Int) ≤ wd + 1 := by
    intro x hx
    rw [e] at hx
    obtain ⟨s, hs, hxs⟩ := List.mem_flatten.1 hx
    obtain ⟨p, hp, rfl⟩ := List.mem_map.1 hs
    obtain ⟨y, hy, hxy⟩ := softL_mem hxs
    have hl := flow_line (hps p hp).2 hw y hy
    have hz := hl.size
    rcases hxy with rfl | rfl
    · exact ⟨hl.valid, by omega⟩
    · refine ⟨hl.soft, ?_⟩
      rw [ByteArray.size_append]
      have : sp1.size = 1 := rfl
      omega
  have hv : validLs (flowR ps wd) = true := by
    unfold validLs
    simp only [Bool.and_eq_true, List.all_eq_true, decide_eq_true_eq]
    exact ⟨fun x hx => (each x hx).1, flowR_len ps wd⟩
  refine ⟨?_, fun i hi => ?_⟩
  · unfold unflR
    rw [if_pos hv, e]
    exact flow_unfl hw ps hps
  · rw [nth_eq hi]
    exact (each _ (List.getElem_mem hi)).2
end Go.Proofs.Ytoeejepamlnkkaa.pl
