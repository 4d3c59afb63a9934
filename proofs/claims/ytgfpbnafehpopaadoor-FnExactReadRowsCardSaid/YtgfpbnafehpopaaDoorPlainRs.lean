/- Plain: the library's cut of a line is the table's. -/
import Derived.Test.YtgfpbnafehpopaaDoorPlainRp
import Derived.Test.YtgfpbnafehpopaaDoorPlainM
import Derived.Test.YtgfpbnafehpopaaDoorStrs
import Derived.Lib.SplitLaws
namespace Go.Proofs.YtgfpbnafehpopaaDoor.pl
set_option maxRecDepth 100000

def partsB (x : ByteArray) : List ByteArray := (cutG 0 [] x.data.toList).map bs
theorem readRow_parts (x : ByteArray) : readRow x = (partsB x).map trimB := by
  unfold readRow partsB
  rw [List.map_map]; rfl
theorem splitB_parts (x : ByteArray) : Lib.splitB barS 0 (Lib.countB x barS) x = partsB x := by
  have h1 := Lib.splitB_data barS 0 (Lib.countB x barS) x
  have h2 := splitK_cutG x.size x.data.toList [] (by rw [len_eq]; exact Nat.le_refl _)
  have hb : barS.data.toList = [32, 124, 32] := rfl
  have hc : Lib.countB x barS = Lib.count x.data.toList [32, 124, 32] := rfl
  rw [hb, hc] at h1
  have h3 : ∀ X : List (List UInt8), X ≠ [] → glue [] X = X := fun X hX => by
    cases X with
    | nil => exact absurd rfl hX
    | cons p r => simp [glue]
  rw [h3 _ (splitK_ne _ _ _ _)] at h2
  rw [h2] at h1
  unfold partsB
  rw [← h1, List.map_map, hc]
  conv => lhs; rw [← List.map_id (Lib.splitB barS 0 (Lib.count x.data.toList [32, 124, 32]) x)]
  exact List.map_congr_left fun a _ => (bs_self a).symm
theorem splitB_len (x : ByteArray) : (partsB x).length = Lib.countB x barS + 1 := by
  rw [← splitB_parts]
  exact Lib.splitB_all barS (by decide) 0 _ x rfl
theorem partsB_len (x : ByteArray) : 0 < (partsB x).length ∧ (partsB x).length ≤ x.size + 1 := by
  constructor
  · rw [splitB_len]; omega
  · unfold partsB
    rw [List.length_map, ← len_eq]; exact cutG_len _ _ _
theorem cutG_size : ∀ (l : List UInt8) (s : Nat) (cur p : List UInt8), p ∈ cutG s cur l → p.length ≤ cur.length + l.length
  | [], s, cur, p, h => by
    unfold cutG at h
    simp at h; subst h; simp
  | c :: r, s + 1, cur, p, h => by
    rw [cutG_skip] at h
    have := cutG_size r s cur p h
    simp; omega
  | c :: r, 0, cur, p, h => by
    by_cases hb : c = 32 ∧ r.take 2 = [124, 32]
    · unfold cutG at h
      rw [if_pos hb] at h
      rcases List.mem_cons.1 h with rfl | h
      · simp
      · have := cutG_size r 2 [] p h
        simp at this ⊢; omega
    · rw [cutG_byte cur hb] at h
      have := cutG_size r 0 _ p h
      simp at this ⊢; omega
theorem partsB_size (x : ByteArray) : ∀ i, i < (partsB x).length → (nth (partsB x) i).size ≤ x.size := by
  intro i hi
  have hm : nth (partsB x) i ∈ partsB x := by rw [nth_eq hi]; exact List.getElem_mem hi
  unfold partsB at hm
  obtain ⟨p, hp, he⟩ := List.mem_map.1 hm
  have h1 := cutG_size _ _ _ _ hp
  rw [len_eq] at h1
  unfold partsB at *
  rw [← he]
  show p.length ≤ _
  simpa using h1
theorem trimB_size (x : ByteArray) : (trimB x).size ≤ x.size := by
  show (trimL x.data.toList).length ≤ _
  have := rtrim_len x.data.toList
  rw [len_eq] at this
  unfold trimL
  rw [List.length_drop]; omega
theorem trimB_two (x : ByteArray) : ltrim (bs (rtrim x.data.toList)) = trimB x := rfl
theorem readRow_len2 (x : ByteArray) : (readRow x).length = (partsB x).length := by rw [readRow_parts, List.length_map]
theorem readRow_size (x : ByteArray) : ∀ i, i < (readRow x).length → (nth (readRow x) i).size ≤ x.size := by
  intro i hi
  rw [readRow_len2] at hi
  rw [readRow_parts, nth_eq (by simpa using hi), List.getElem_map]
  have h1 := trimB_size ((partsB x)[i])
  have h2 := partsB_size x i hi
  rw [nth_eq hi] at h2
  omega
theorem readP_small {ls : List ByteArray} (hl : ls.length ≤ 1048576) (h : ∀ i, i < ls.length → (nth ls i).size ≤ 180) :
    (readP ls).length ≤ 1048576 ∧ (∀ k, k < (readP ls).length → (nthP (readP ls) k).length ≤ 1048576) ∧ ∀ k, k < (readP ls).length → ∀ i, i < (nthP (readP ls) k).length → (nth (nthP (readP ls) k) i).size ≤ 1048576 := by
  refine ⟨by rw [readP_len]; exact hl, fun k hk => ?_, fun k hk i hi => ?_⟩
  · rw [readP_len] at hk
    rw [readP_nth hk, readRow_len2]
    have := (partsB_len (nth ls k)).2
    have := h k hk
    omega
  · rw [readP_len] at hk
    rw [readP_nth hk] at hi ⊢
    have := readRow_size _ i hi
    have := h k hk
    omega
theorem lead_split : ∀ l : List UInt8, spL (leadL l) ++ l.drop (leadL l) = l
  | [] => rfl
  | c :: r => by
    unfold leadL
    by_cases h : c = 32
    · rw [if_pos h, spL_succ, List.drop_succ_cons, List.cons_append, lead_split r, h]
    · rw [if_neg h]; rfl
theorem rcut_split (l : List UInt8) : ∀ n, n ≤ l.length → l.take (rcut l n) ++ spL (n - rcut l n) = l.take n
  | 0, _ => rfl
  | n + 1, h => by
    by_cases e : l[n]? = some 32
    · have ih := rcut_split l n (by omega)
      have hle := rcut_le l n
      rw [rcut_sp e, show n + 1 - rcut l n = (n - rcut l n) + 1 from by omega, spL_snoc, ← List.append_assoc, ih]
      rw [List.take_add_one, e]; rfl
    · rw [rcut_no e, Nat.sub_self]
      show _ ++ [] = _
      rw [List.append_nil]
theorem rtrim_split (l : List UInt8) : ∃ b, rtrim l ++ spL b = l :=
  ⟨_, by have := rcut_split l l.length (Nat.le_refl _); rw [List.take_length] at this; exact this⟩
/-- first ahead, then behind -/
theorem trim_comm (l : List UInt8) : rtrim (l.drop (leadL l)) = trimL l := by
  obtain ⟨b, hb⟩ := rtrim_split (l.drop (leadL l))
  have hl := lead_split l
  have h1 := lead_drop_head l
  have h2 := rtrim_getLast (l.drop (leadL l))
  generalize hm : rtrim (l.drop (leadL l)) = m at hb h2 ⊢
  have hr : raggedL m = false := by
    unfold raggedL
    have h3 : ¬ m.head? = some 32 := by
      intro e
      apply h1
      rw [← hb]
      cases m with
      | nil => simp at e
      | cons c r => exact e
    simp [h2, h3]
  have := trim_padded (leadL l) b hr
  rw [List.append_assoc, hb, hl] at this
  exact this.symm
theorem readB_long {ls : List ByteArray} (h : shortLs ls = false) : readB ls = false := by unfold readB; rw [h]; rfl
theorem readB_rows {ls : List ByteArray} (h : ∀ i, i < ls.length → (nth ls i).size ≤ 180) : readB ls = vRows (readP ls) := by unfold readB; rw [shortLs_yes h]; rfl
theorem readB_many {ls : List ByteArray} (h : 6 < ls.length) : readB ls = false := by
  unfold readB
  rw [vRows_long (by rw [readP_len]; exact h), Bool.and_false]
end Go.Proofs.YtgfpbnafehpopaaDoor.pl
