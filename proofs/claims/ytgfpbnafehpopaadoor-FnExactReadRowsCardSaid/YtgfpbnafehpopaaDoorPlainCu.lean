/- Plain: the model's cut of a line, from the left on. -/
import Derived.Test.YtgfpbnafehpopaaDoorPlainRs
namespace Go.Proofs.YtgfpbnafehpopaaDoor.pl
set_option maxRecDepth 100000

theorem cutG_short : ∀ (l cur : List UInt8), l.length < 3 → cutG 0 cur l = [cur ++ l]
  | [], cur, _ => by unfold cutG; simp
  | c :: r, cur, h => by
    rw [cutG_byte cur, cutG_short r _ (by simp at h; omega)]
    · simp
    · rintro ⟨_, e⟩
      have := congrArg List.length e
      rw [List.length_take] at this
      simp at this h
      omega
/-- from k on the line is still to be cut; the part that is read begins at f -/
def CutAt (x : ByteArray) (f k : Nat) (out : List ByteArray) : Prop :=
  ∃ done : List (List UInt8), cutG 0 [] x.data.toList = done ++ cutG 0 (seg x.data.toList f k) (x.data.toList.drop k) ∧ out = done.map (fun p => bs (trimL p))
theorem CutAt.start (x : ByteArray) : CutAt x 0 0 [] := ⟨[], by rw [seg_self]; rfl, rfl⟩
theorem ex_list (x : ByteArray) (a b : Nat) : (x.extract a b).toList = seg x.data.toList a b := by rw [Lib.toList_data, ex_bs, bs_data]
theorem drop_three (l : List UInt8) (k : Nat) : l.drop k = seg l k (k + 3) ++ l.drop (k + 3) := by
  unfold seg
  rw [show k + 3 - k = 3 from by omega, ← List.drop_drop, List.take_append_drop]
theorem CutAt.bar {x : ByteArray} {f k : Nat} {out : List ByteArray} (h : CutAt x f k out) (hb : ((x.extract k (k + 3)).toList == [32, 124, 32]) = true) {t : ByteArray} (ht : trimB (x.extract f k) = t) : CutAt x (k + 3) (k + 3) (out ++ [t]) := by
  obtain ⟨done, h1, h2⟩ := h
  have hs : seg x.data.toList k (k + 3) = [32, 124, 32] := by rw [← ex_list]; exact beq_iff_eq.1 hb
  refine ⟨done ++ [seg x.data.toList f k], ?_, ?_⟩
  · rw [h1, drop_three, hs]
    show _ ++ cutG 0 _ (32 :: 124 :: 32 :: _) = _
    rw [cutG_bar, seg_self, List.append_assoc]; rfl
  · rw [h2, List.map_append, ← ht, ex_bs]; rfl
theorem CutAt.step {x : ByteArray} {f k : Nat} {out : List ByteArray} (h : CutAt x f k out) (hf : f ≤ k) (hk : k + 3 ≤ x.size) (hb : ((x.extract k (k + 3)).toList == [32, 124, 32]) = false) : CutAt x f (k + 1) out := by
  obtain ⟨done, h1, h2⟩ := h
  refine ⟨done, ?_, h2⟩
  have hkl : k < x.data.toList.length := by rw [len_eq]; omega
  have hs : ¬ seg x.data.toList k (k + 3) = [32, 124, 32] := by
    intro e
    rw [← ex_list] at e
    rw [e] at hb
    exact absurd hb (by decide)
  have hd : x.data.toList.drop k = x.data.toList[k] :: x.data.toList.drop (k + 1) := List.drop_eq_getElem_cons hkl
  have hn : ¬ (x.data.toList[k] = 32 ∧ (x.data.toList.drop (k + 1)).take 2 = [124, 32]) := by
    rintro ⟨e1, e2⟩
    apply hs
    unfold seg
    rw [show k + 3 - k = 2 + 1 from by omega, hd, List.take_succ_cons, e1, e2]
  rw [h1, hd, cutG_byte _ hn, seg_succ hf (by omega)]
  rfl
theorem CutAt.last {x : ByteArray} {f k : Nat} {out : List ByteArray} (h : CutAt x f k out) (hf : f ≤ k) (hk : k ≤ x.size) (h3 : ¬ k + 3 ≤ x.size) {t : ByteArray} (ht : trimB (x.extract f x.size) = t) : out ++ [t] = readRow x := by
  obtain ⟨done, h1, h2⟩ := h
  unfold readRow
  rw [h1, cutG_short _ _ (by rw [List.length_drop, len_eq]; omega), List.map_append, ← h2, ← ht, ex_bs]
  congr 1
  have e : seg x.data.toList f k ++ x.data.toList.drop k = seg x.data.toList f x.size := by
    unfold seg
    have e1 : (x.data.toList.drop f).take (x.size - f) = x.data.toList.drop f := List.take_of_length_le (by rw [List.length_drop, len_eq]; exact Nat.le_refl _)
    rw [e1]
    have e2 := List.take_append_drop (k - f) (x.data.toList.drop f)
    rw [List.drop_drop, show f + (k - f) = k from by omega] at e2
    exact e2
  rw [e]; rfl
theorem CutAt.len {x : ByteArray} {f k : Nat} {out : List ByteArray} (h : CutAt x f k out) : out.length ≤ x.size + 1 := by
  obtain ⟨done, h1, h2⟩ := h
  have h3 := cutG_len x.data.toList 0 []
  rw [h1, List.length_append, len_eq] at h3
  rw [h2, List.length_map]; omega
theorem take_rows {ps : Gs} {j : Nat} (h : j < ps.length) : ps.take j ++ [nthP ps j] = ps.take (j + 1) := by
  rw [List.take_succ_eq_append_getElem h, nthP_eq h]
theorem drop_list {s t : ByteArray} {k : Nat} (h : t = bs (s.data.toList.drop k)) (hk : ld s = k) : bs (rtrim t.data.toList) = trimB s := by
  unfold trimB
  rw [h, bs_data, ← trim_comm]
  unfold ld at hk
  rw [hk]
theorem totTo_bd {ps : Gs} {M : Nat} : ∀ k, (∀ i, i < k → (nthP ps i).length ≤ M) → totTo ps k ≤ M * k
  | 0, _ => by simp [totTo]
  | k + 1, h => by
    rw [totTo_succ, Nat.mul_succ]
    have := totTo_bd k (fun i hi => h i (by omega))
    have := h k (by omega)
    omega
theorem readR_bd (ls : List ByteArray) : (readR ls).length ≤ 1000 ∧ totTo (readR ls) (readR ls).length ≤ 1000000 ∧ ∀ k, k < (readR ls).length → (nthP (readR ls) k).length ≤ 1000000 := by
  by_cases h : readB ls = true
  · have hv : vRows (readP ls) = true := by unfold readB at h; rw [Bool.and_eq_true] at h; exact h.2
    rw [readR_yes h]
    generalize readP ls = T at hv
    have h6 := (vRows_parts hv).1
    have hr : ∀ k, k < T.length → (nthP T k).length ≤ 5 := fun k hk => by
      rw [(vRows_row hv hk).1]; exact vRows_cols hv
    have ht := totTo_bd (ps := T) (M := 5) _ hr
    exact ⟨by omega, by omega, fun k hk => by have := hr k hk; omega⟩
  · rw [readR_no (by simpa using h)]
    exact ⟨by simp, by simp [totTo], fun k hk => by simp at hk⟩
end Go.Proofs.YtgfpbnafehpopaaDoor.pl
