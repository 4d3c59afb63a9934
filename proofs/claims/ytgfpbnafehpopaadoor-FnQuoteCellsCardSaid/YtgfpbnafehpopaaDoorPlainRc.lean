/- Plain: cells with commas read back. -/
import Derived.Test.YtgfpbnafehpopaaDoorPkC
import Derived.Lib.Strings
namespace Go.Proofs.YtgfpbnafehpopaaDoor.pl
set_option maxRecDepth 100000

/-- what stands between the commas that are not in quotes -/
def cutQ : Bool → List UInt8 → List UInt8 → List (List UInt8)
  | _, cur, [] => [cur]
  | q, cur, c :: r => if c = 34 then cutQ (!q) (cur ++ [c]) r else if c = 44 ∧ q = false then cur :: cutQ false [] r else cutQ q (cur ++ [c]) r
theorem cutQ_quote (q : Bool) (cur r : List UInt8) : cutQ q cur (34 :: r) = cutQ (!q) (cur ++ [34]) r := by
  conv => lhs; unfold cutQ
  rw [if_pos rfl]
theorem cutQ_comma (cur r : List UInt8) : cutQ false cur (44 :: r) = cur :: cutQ false [] r := by
  conv => lhs; unfold cutQ
  rw [if_neg (by decide), if_pos ⟨rfl, rfl⟩]
theorem cutQ_byte {q : Bool} {c : UInt8} (cur r : List UInt8) (h : c ≠ 34) (h2 : ¬ (c = 44 ∧ q = false)) : cutQ q cur (c :: r) = cutQ q (cur ++ [c]) r := by
  conv => lhs; unfold cutQ
  rw [if_neg h, if_neg h2]
theorem cutQ_dbl : ∀ (l cur r : List UInt8), cutQ true cur (dblQ l ++ r) = cutQ true (cur ++ dblQ l) r
  | [], cur, r => by rw [dblQ_nil, List.nil_append, List.append_nil]
  | c :: l, cur, r => by
    rw [dblQ_cons, List.append_assoc]
    by_cases h : c = 34
    · rw [dblC_quote h]
      show cutQ true cur (34 :: 34 :: (dblQ l ++ r)) = _
      rw [cutQ_quote, cutQ_quote]
      show cutQ true _ _ = _
      rw [cutQ_dbl l]
      simp
    · rw [dblC_else h]
      show cutQ true cur (c :: (dblQ l ++ r)) = _
      rw [cutQ_byte _ _ h (by simp), cutQ_dbl l]
      simp
theorem cutQ_free : ∀ (l cur r : List UInt8), l.any qsB = false → cutQ false cur (l ++ r) = cutQ false (cur ++ l) r
  | [], cur, r, _ => by rw [List.nil_append, List.append_nil]
  | c :: l, cur, r, h => by
    rw [List.any_cons, Bool.or_eq_false_iff] at h
    have h1 : c ≠ 34 := by rintro rfl; exact absurd h.1 (by decide)
    have h2 : c ≠ 44 := by rintro rfl; exact absurd h.1 (by decide)
    rw [List.cons_append, cutQ_byte _ _ h1 (fun e => h2 e.1), cutQ_free l _ _ h.2]
    simp
theorem cutQ_quo (l cur r : List UInt8) : cutQ false cur (quoL l ++ r) = cutQ false (cur ++ quoL l) r := by
  cases h : mustQ l with
  | false =>
    rw [quoL_not h]
    exact cutQ_free l cur r (mustQ_parts h).2
  | true =>
    rw [quoL_must h]
    show cutQ false cur (34 :: (dblQ l ++ [34] ++ r)) = _
    rw [cutQ_quote, List.append_assoc]
    show cutQ true _ _ = _
    rw [cutQ_dbl]
    show cutQ true _ (34 :: r) = _
    rw [cutQ_quote]
    simp
theorem cutQ_join : ∀ (xs : List (List UInt8)) (x cur : List UInt8), cutQ false cur (quoL x ++ Lib.joinTail [44] (xs.map quoL)) = (cur ++ quoL x) :: xs.map quoL
  | [], x, cur => by
    rw [cutQ_quo]
    have : Lib.joinTail [44] (([] : List (List UInt8)).map quoL) = [] := by simp [Lib.joinTail]
    rw [this]; rfl
  | y :: ys, x, cur => by
    rw [cutQ_quo]
    have : Lib.joinTail [44] ((y :: ys).map quoL) = 44 :: (quoL y ++ Lib.joinTail [44] (ys.map quoL)) := by simp [Lib.joinTail]
    rw [this, cutQ_comma, cutQ_join ys y []]
    simp

/-- a cell of what stands between the commas -/
def unqC (l : List UInt8) : List UInt8 := if l.head? = some 34 then raG [34, 34] [34] 0 (Lib.trimSuffix l.tail [34]) else l
theorem raG_undbl : ∀ l : List UInt8, raG [34, 34] [34] 0 (dblQ l) = l
  | [] => rfl
  | c :: l => by
    rw [dblQ_cons]
    by_cases h : c = 34
    · rw [dblC_quote h, h]
      show raG [34, 34] [34] 0 (34 :: 34 :: dblQ l) = _
      rw [raG_hit (by simp) (by simp [List.isPrefixOf])]
      show [34] ++ raG [34, 34] [34] 0 (dblQ l) = _
      rw [raG_undbl l]; rfl
    · rw [dblC_else h]
      show raG [34, 34] [34] 0 (c :: dblQ l) = _
      rw [raG_miss (by simp [List.isPrefixOf]; intro e; exact absurd e.symm h), raG_undbl l]
theorem trimSuffix_one (l : List UInt8) : Lib.trimSuffix (l ++ [34]) [34] = l := by
  unfold Lib.trimSuffix Lib.hasSuffix
  rw [if_pos (by simp)]
  simp
theorem unqC_quoL (l : List UInt8) : unqC (quoL l) = l := by
  cases h : mustQ l with
  | false =>
    obtain ⟨h1, h2⟩ := mustQ_parts h
    rw [quoL_not h]
    unfold unqC
    rw [if_neg]
    intro e
    cases l with
    | nil => simp at e
    | cons c r =>
      simp at e
      subst e
      simp [qsB] at h2
  | true =>
    rw [quoL_must h]
    unfold unqC
    rw [if_pos (show (34 :: (dblQ l ++ [34]) : List UInt8).head? = some 34 from rfl)]
    show raG [34, 34] [34] 0 (Lib.trimSuffix (dblQ l ++ [34]) [34]) = l
    rw [trimSuffix_one, raG_undbl]

def cellsL (s : List UInt8) : List ByteArray := (cutQ false [] s).map fun p => bs (unqC p)
theorem quoR_data {l : List ByteArray} (h : vCells l = true) : ∃ x xs, l = x :: xs ∧ (quoR l).data.toList = quoL x.data.toList ++ Lib.joinTail [44] ((xs.map fun y => y.data.toList).map quoL) := by
  cases l with
  | nil => have := (vCells_parts h).1; simp at this
  | cons x xs =>
    refine ⟨x, xs, rfl, ?_⟩
    rw [quoR_yes h]
    unfold joinB toL
    rw [bs_data, List.map_cons, List.map_cons, Lib.join_cons]
    have e : comma.data.toList = [44] := rfl
    rw [e]
    congr 1
    rw [List.map_map, List.map_map]
    rfl
/-- what QuoteCells writes is read back -/
theorem cells_back {l : List ByteArray} (h : vCells l = true) : cellsL (quoR l).data.toList = l := by
  obtain ⟨x, xs, rfl, e⟩ := quoR_data h
  unfold cellsL
  rw [e, cutQ_join, List.nil_append, List.map_cons, unqC_quoL, bs_self, List.map_map]
  congr 1
  conv => rhs; rw [← List.map_id xs]
  rw [List.map_map]
  refine List.map_congr_left fun a _ => ?_
  show bs (unqC (quoL a.data.toList)) = a
  rw [unqC_quoL, bs_self]
theorem quoR_ne {l : List ByteArray} (h : vCells l = true) : (quoR l).data.toList ≠ [] := by
  obtain ⟨x, xs, rfl, e⟩ := quoR_data h
  rw [e]
  intro h2
  have h3 := (List.append_eq_nil_iff.1 h2).1
  cases hm : mustQ x.data.toList with
  | false => rw [quoL_not hm] at h3; exact (mustQ_parts hm).1 h3
  | true => rw [quoL_must hm] at h3; simp at h3
def rcB (s : ByteArray) : Bool := decide (quoR (cellsL s.data.toList) = s)
def rcR (s : ByteArray) : List ByteArray := if rcB s = true then cellsL s.data.toList else []
theorem rcB_valid {s : ByteArray} (h : rcB s = true) : vCells (cellsL s.data.toList) = true := by
  have h' : quoR (cellsL s.data.toList) = s := of_decide_eq_true h
  cases hv : vCells (cellsL s.data.toList) with
  | true => rfl
  | false =>
    rw [quoR_no hv] at h'
    rw [← h', bs_data] at hv
    exact absurd hv (by decide)
/-- whoever writes s is what s is read as -/
theorem rc_only {l : List ByteArray} {s : ByteArray} (h : quoR l = s) (h2 : s.data.toList ≠ []) : rcB s = true ∧ cellsL s.data.toList = l := by
  cases hv : vCells l with
  | false => rw [quoR_no hv] at h; rw [← h] at h2; exact absurd (bs_data []) h2
  | true =>
    have e := cells_back hv
    rw [h] at e
    exact ⟨decide_eq_true (by rw [e, h]), e⟩
theorem rcB_no {s : ByteArray} (h : rcB s = false) (l : List ByteArray) (h2 : s.data.toList ≠ []) : ¬ quoR l = s := by
  intro e
  rw [(rc_only e h2).1] at h
  cases h
theorem dblQ_mem {l : List UInt8} {b : UInt8} (h : b ∈ dblQ l) : b = 34 ∨ b ∈ l := by
  unfold dblQ at h
  obtain ⟨c, hc, hb⟩ := List.mem_flatMap.1 h
  unfold dblC at hb
  split at hb
  · simp at hb; exact .inl hb
  · simp at hb; exact .inr (hb ▸ hc)
theorem quoL_mem {l : List UInt8} {b : UInt8} (h : b ∈ quoL l) : b = 34 ∨ b ∈ l := by
  cases hm : mustQ l with
  | false => rw [quoL_not hm] at h; exact .inr h
  | true =>
    rw [quoL_must hm] at h
    rcases List.mem_cons.1 h with h | h
    · exact .inl h
    · rcases List.mem_append.1 h with h | h
      · exact dblQ_mem h
      · simp at h; exact .inl h
theorem joinTail_mem {b : UInt8} : ∀ (xs : List (List UInt8)), b ∈ Lib.joinTail [44] xs → b = 44 ∨ ∃ x ∈ xs, b ∈ x
  | [], h => by simp [Lib.joinTail] at h
  | y :: ys, h => by
    have e : Lib.joinTail [44] (y :: ys) = 44 :: (y ++ Lib.joinTail [44] ys) := by simp [Lib.joinTail]
    rw [e] at h
    rcases List.mem_cons.1 h with h | h
    · exact .inl h
    · rcases List.mem_append.1 h with h | h
      · exact .inr ⟨y, by simp, h⟩
      · rcases joinTail_mem ys h with h | ⟨x, hx, hb⟩
        · exact .inl h
        · exact .inr ⟨x, List.mem_cons_of_mem _ hx, hb⟩
theorem cell_low {x : ByteArray} (h : vCell x = true) {b : UInt8} (hb : b ∈ x.data.toList) : b.toNat < 128 := by
  have h1 := (vCell_parts h).1
  unfold validT at h1
  rw [Bool.and_eq_true] at h1
  have h2 := plainB_lt (List.all_eq_true.1 h1.1 b hb)
  omega
/-- what QuoteCells writes has bytes below 128 only -/
theorem quoR_low (l : List ByteArray) : ∀ b ∈ (quoR l).data.toList, b.toNat < 128 := by
  intro b hb
  cases hv : vCells l with
  | false => rw [quoR_no hv, bs_data] at hb; simp at hb
  | true =>
    obtain ⟨x, xs, rfl, e⟩ := quoR_data hv
    have hc : ∀ y ∈ x :: xs, vCell y = true := by
      intro y hy
      have h2 : (inR (x :: xs).length 1 5 && (x :: xs).all vCell) = true := hv
      rw [Bool.and_eq_true] at h2
      exact List.all_eq_true.1 h2.2 y hy
    have h34 : (34 : UInt8).toNat < 128 := by decide
    have h44 : (44 : UInt8).toNat < 128 := by decide
    rw [e] at hb
    rcases List.mem_append.1 hb with h | h
    · rcases quoL_mem h with rfl | h
      · exact h34
      · exact cell_low (hc x (by simp)) h
    · rcases joinTail_mem _ h with rfl | ⟨z, hz, hbz⟩
      · exact h44
      · obtain ⟨u, hu, rfl⟩ := List.mem_map.1 hz
        obtain ⟨y, hy, rfl⟩ := List.mem_map.1 hu
        rcases quoL_mem hbz with rfl | h
        · exact h34
        · exact cell_low (hc y (List.mem_cons_of_mem _ hy)) h
end Go.Proofs.YtgfpbnafehpopaaDoor.pl
