/- Joined texts: PlainRc PlainMc. -/
import Derived.Test.YtpfheanpbbfpdaaDoorPkC
import Derived.Lib.Strings
/- Plain: cells with commas read back. -/
namespace Go.Proofs.YtpfheanpbbfpdaaDoor.pl
set_option maxRecDepth 100000

/-- what stands between the commas that are not in quotes -/
def cutQ : Bool → List UInt8 → List UInt8 → List (List UInt8)
  | _, cur, [] => [cur]
  | q, cur, c :: r => if c = 34 then cutQ (!q) (cur ++ [c]) r else if c = 44 ∧ q = false then cur :: cutQ false [] r else cutQ q (cur ++ [c]) r
theorem cutQ_quote (q : Bool) (cur r : List UInt8) : cutQ q cur (34 :: r) = cutQ (!q) (cur ++ [34]) r := by
  conv => lhs; unfold cutQ
  rw [if_pos rfl]
theorem cutQ_comma (cur r : List UInt8) : cutQ false cur (44 :: r) = cur :: cutQ false [] r := by
  conv => lhs; unfold cutQ
  rw [if_neg (by decide), if_pos ⟨rfl, rfl⟩]
theorem cutQ_byte {q : Bool} {c : UInt8} (cur r : List UInt8) (h : c ≠ 34) (h2 : ¬ (c = 44 ∧ q = false)) : cutQ q cur (c :: r) = cutQ q (cur ++ [c]) r := by
  conv => lhs; unfold cutQ
  rw [if_neg h, if_neg h2]
theorem cutQ_dbl : ∀ (l cur r : List UInt8), cutQ true cur (dblQ l ++ r) = cutQ true (cur ++ dblQ l) r
  | [], cur, r => by rw [dblQ_nil, List.nil_append, List.append_nil]
  | c :: l, cur, r => by
    rw [dblQ_cons, List.append_assoc]
    by_cases h : c = 34
    · rw [dblC_quote h]
      show cutQ true cur (34 :: 34 :: (dblQ l ++ r)) = _
      rw [cutQ_quote, cutQ_quote]
      show cutQ true _ _ = _
      rw [cutQ_dbl l]
      simp
    · rw [dblC_else h]
      show cutQ true cur (c :: (dblQ l ++ r)) = _
      rw [cutQ_byte _ _ h (by simp), cutQ_dbl l]
      simp
theorem cutQ_free : ∀ (l cur r : List UInt8), l.any qsB = false → cutQ false cur (l ++ r) = cutQ false (cur ++ l) r
  | [], cur, r, _ => by rw [List.nil_append, List.append_nil]
  | c :: l, cur, r, h => by
    rw [List.any_cons, Bool.or_eq_false_iff] at h
    have h1 : c ≠ 34 := by rintro rfl; exact absurd h.1 (by decide)
    have h2 : c ≠ 44 := by rintro rfl; exact absurd h.1 (by decide)
    rw [List.cons_append, cutQ_byte _ _ h1 (fun e => h2 e.1), cutQ_free l _ _ h.2]
    simp
theorem cutQ_quo (l cur r : List UInt8) : cutQ false cur (quoL l ++ r) = cutQ false (cur ++ quoL l) r := by
  cases h : mustQ l with
  | false =>
    rw [quoL_not h]
    exact cutQ_free l cur r (mustQ_parts h).2
  | true =>
    rw [quoL_must h]
    show cutQ false cur (34 :: (dblQ l ++ [34] ++ r)) = _
    rw [cutQ_quote, List.append_assoc]
    show cutQ true _ _ = _
    rw [cutQ_dbl]
    show cutQ true _ (34 :: r) = _
    rw [cutQ_quote]
    simp
theorem cutQ_join : ∀ (xs : List (List UInt8)) (x cur : List UInt8), cutQ false cur (quoL x ++ Lib.joinTail [44] (xs.map quoL)) = (cur ++ quoL x) :: xs.map quoL
  | [], x, cur => by
    rw [cutQ_quo]
    have : Lib.joinTail [44] (([] : List (List UInt8)).map quoL) = [] := by simp [Lib.joinTail]
    rw [this]; rfl
  | y :: ys, x, cur => by
    rw [cutQ_quo]
    have : Lib.joinTail [44] ((y :: ys).map quoL) = 44 :: (quoL y ++ Lib.joinTail [44] (ys.map quoL)) := by simp [Lib.joinTail]
    rw [this, cutQ_comma, cutQ_join ys y []]
    simp

/-- a cell of what stands between the commas -/
def unqC (l : List UInt8) : List UInt8 := if l.head? = some 34 then raG [34, 34] [34] 0 (Lib.trimSuffix l.tail [34]) else l
theorem raG_undbl : ∀ l : List UInt8, raG [34, 34] [34] 0 (dblQ l) = l
  | [] => rfl
  | c :: l => by
    rw [dblQ_cons]
    by_cases h : c = 34
    · rw [dblC_quote h, h]
      show raG [34, 34] [34] 0 (34 :: 34 :: dblQ l) = _
      rw [raG_hit (by simp) (by simp [List.isPrefixOf])]
      show [34] ++ raG [34, 34] [34] 0 (dblQ l) = _
      rw [raG_undbl l]; rfl
    · rw [dblC_else h]
      show raG [34, 34] [34] 0 (c :: dblQ l) = _
      rw [raG_miss (by simp [List.isPrefixOf]; intro e; exact absurd e.symm h), raG_undbl l]
theorem trimSuffix_one (l : List UInt8) : Lib.trimSuffix (l ++ [34]) [34] = l := by
  unfold Lib.trimSuffix Lib.hasSuffix
  rw [if_pos (by simp)]
  simp
theorem unqC_quoL (l : List UInt8) : unqC (quoL l) = l := by
  cases h : mustQ l with
  | false =>
    obtain ⟨h1, h2⟩ := mustQ_parts h
    rw [quoL_not h]
    unfold unqC
    rw [if_neg]
    intro e
    cases l with
    | nil => simp at e
    | cons c r =>
      simp at e
      subst e
      simp [qsB] at h2
  | true =>
    rw [quoL_must h]
    unfold unqC
    rw [if_pos (show (34 :: (dblQ l ++ [34]) : List UInt8).head? = some 34 from rfl)]
    show raG [34, 34] [34] 0 (Lib.trimSuffix (dblQ l ++ [34]) [34]) = l
    rw [trimSuffix_one, raG_undbl]

def cellsL (s : List UInt8) : List ByteArray := (cutQ false [] s).map fun p => bs (unqC p)
theorem quoR_data {l : List ByteArray} (h : vCells l = true) : ∃ x xs, l = x :: xs ∧ (quoR l).data.toList = quoL x.data.toList ++ Lib.joinTail [44] ((xs.map fun y => y.data.toList).map quoL) := by
  cases l with
  | nil => have := (vCells_parts h).1; simp at this
  | cons x xs =>
    refine ⟨x, xs, rfl, ?_⟩
    rw [quoR_yes h]
    unfold joinB toL
    rw [bs_data, List.map_cons, List.map_cons, Lib.join_cons]
    have e : comma.data.toList = [44] := rfl
    rw [e]
    congr 1
    rw [List.map_map, List.map_map]
    rfl
/-- what QuoteCells writes is read back -/
theorem cells_back {l : List ByteArray} (h : vCells l = true) : cellsL (quoR l).data.toList = l := by
  obtain ⟨x, xs, rfl, e⟩ := quoR_data h
  unfold cellsL
  rw [e, cutQ_join, List.nil_append, List.map_cons, unqC_quoL, bs_self, List.map_map]
  congr 1
  conv => rhs; rw [← List.map_id xs]
  rw [List.map_map]
  refine List.map_congr_left fun a _ => ?_
  show bs (unqC (quoL a.data.toList)) = a
  rw [unqC_quoL, bs_self]
theorem quoR_ne {l : List ByteArray} (h : vCells l = true) : (quoR l).data.toList ≠ [] := by
  obtain ⟨x, xs, rfl, e⟩ := quoR_data h
  rw [e]
  intro h2
  have h3 := (List.append_eq_nil_iff.1 h2).1
  cases hm : mustQ x.data.toList with
  | false => rw [quoL_not hm] at h3; exact (mustQ_parts hm).1 h3
  | true => rw [quoL_must hm] at h3; simp at h3
def rcB (s : ByteArray) : Bool := decide (quoR (cellsL s.data.toList) = s)
def rcR (s : ByteArray) : List ByteArray := if rcB s = true then cellsL s.data.toList else []
theorem rcB_valid {s : ByteArray} (h : rcB s = true) : vCells (cellsL s.data.toList) = true := by
  have h' : quoR (cellsL s.data.toList) = s := of_decide_eq_true h
  cases hv : vCells (cellsL s.data.toList) with
  | true => rfl
  | false =>
    rw [quoR_no hv] at h'
    rw [← h', bs_data] at hv
    exact absurd hv (by decide)
/-- whoever writes s is what s is read as -/
theorem rc_only {l : List ByteArray} {s : ByteArray} (h : quoR l = s) (h2 : s.data.toList ≠ []) : rcB s = true ∧ cellsL s.data.toList = l := by
  cases hv : vCells l with
  | false => rw [quoR_no hv] at h; rw [← h] at h2; exact absurd (bs_data []) h2
  | true =>
    have e := cells_back hv
    rw [h] at e
    exact ⟨decide_eq_true (by rw [e, h]), e⟩
theorem rcB_no {s : ByteArray} (h : rcB s = false) (l : List ByteArray) (h2 : s.data.toList ≠ []) : ¬ quoR l = s := by
  intro e
  rw [(rc_only e h2).1] at h
  cases h
theorem dblQ_mem {l : List UInt8} {b : UInt8} (h : b ∈ dblQ l) : b = 34 ∨ b ∈ l := by
  unfold dblQ at h
  obtain ⟨c, hc, hb⟩ := List.mem_flatMap.1 h
  unfold dblC at hb
  split at hb
  · simp at hb; exact .inl hb
  · simp at hb; exact .inr (hb ▸ hc)
theorem quoL_mem {l : List UInt8} {b : UInt8} (h : b ∈ quoL l) : b = 34 ∨ b ∈ l := by
  cases hm : mustQ l with
  | false => rw [quoL_not hm] at h; exact .inr h
  | true =>
    rw [quoL_must hm] at h
    rcases List.mem_cons.1 h with h | h
    · exact .inl h
    · rcases List.mem_append.1 h with h | h
      · exact dblQ_mem h
      · simp at h; exact .inl h
theorem joinTail_mem {b : UInt8} : ∀ (xs : List (List UInt8)), b ∈ Lib.joinTail [44] xs → b = 44 ∨ ∃ x ∈ xs, b ∈ x
  | [], h => by simp [Lib.joinTail] at h
  | y :: ys, h => by
    have e : Lib.joinTail [44] (y :: ys) = 44 :: (y ++ Lib.joinTail [44] ys) := by simp [Lib.joinTail]
    rw [e] at h
    rcases List.mem_cons.1 h with h | h
    · exact .inl h
    · rcases List.mem_append.1 h with h | h
      · exact .inr ⟨y, by simp, h⟩
      · rcases joinTail_mem ys h with h | ⟨x, hx, hb⟩
        · exact .inl h
        · exact .inr ⟨x, List.mem_cons_of_mem _ hx, hb⟩
theorem cell_low {x : ByteArray} (h : vCell x = true) {b : UInt8} (hb : b ∈ x.data.toList) : b.toNat < 128 := by
  have h1 := (vCell_parts h).1
  unfold validT at h1
  rw [Bool.and_eq_true] at h1
  have h2 := plainB_lt (List.all_eq_true.1 h1.1 b hb)
  omega
/-- what QuoteCells writes has bytes below 128 only -/
theorem quoR_low (l : List ByteArray) : ∀ b ∈ (quoR l).data.toList, b.toNat < 128 := by
  intro b hb
  cases hv : vCells l with
  | false => rw [quoR_no hv, bs_data] at hb; simp at hb
  | true =>
    obtain ⟨x, xs, rfl, e⟩ := quoR_data hv
    have hc : ∀ y ∈ x :: xs, vCell y = true := by
      intro y hy
      have h2 : (inR (x :: xs).length 1 5 && (x :: xs).all vCell) = true := hv
      rw [Bool.and_eq_true] at h2
      exact List.all_eq_true.1 h2.2 y hy
    have h34 : (34 : UInt8).toNat < 128 := by decide
    have h44 : (44 : UInt8).toNat < 128 := by decide
    rw [e] at hb
    rcases List.mem_append.1 hb with h | h
    · rcases quoL_mem h with rfl | h
      · exact h34
      · exact cell_low (hc x (by simp)) h
    · rcases joinTail_mem _ h with rfl | ⟨z, hz, hbz⟩
      · exact h44
      · obtain ⟨u, hu, rfl⟩ := List.mem_map.1 hz
        obtain ⟨y, hy, rfl⟩ := List.mem_map.1 hu
        rcases quoL_mem hbz with rfl | h
        · exact h34
        · exact cell_low (hc y (List.mem_cons_of_mem _ hy)) h
end Go.Proofs.YtpfheanpbbfpdaaDoor.pl

/- Plain: how the model reads cells with commas, where its text is that of cells. -/
namespace Go.Proofs.YtpfheanpbbfpdaaDoor.pl
set_option maxRecDepth 100000

/-- what stands behind the first j cells -/
def tlC (l : List ByteArray) (j : Nat) : List UInt8 := Lib.joinTail [44] (((l.drop j).map fun y => y.data.toList).map quoL)
theorem tlC_end {l : List ByteArray} {j : Nat} (h : l.length ≤ j) : tlC l j = [] := by
  unfold tlC; rw [List.drop_of_length_le h]; simp [Lib.joinTail]
theorem joinTail44 (y : List UInt8) (ys : List (List UInt8)) : Lib.joinTail [44] (y :: ys) = 44 :: (y ++ Lib.joinTail [44] ys) := by simp [Lib.joinTail]
theorem tlC_more {l : List ByteArray} {j : Nat} (h : j < l.length) : tlC l j = 44 :: (quoL (nth l j).data.toList ++ tlC l (j + 1)) := by
  unfold tlC
  rw [List.drop_eq_getElem_cons h, List.map_cons, List.map_cons, nth_eq h]
  exact joinTail44 _ _
theorem tlC_head (l : List ByteArray) (j : Nat) : tlC l j = [] ∨ ∃ t, tlC l j = 44 :: t := by
  by_cases h : j < l.length
  · exact .inr ⟨_, tlC_more h⟩
  · exact .inl (tlC_end (by omega))
def At (s : ByteArray) (out : List ByteArray) (F : List UInt8 → List UInt8 → Prop) : Prop :=
  ∀ l, vCells l = true → quoR l = s → ∃ j, j < l.length ∧ out = l.take j ∧ F (nth l j).data.toList (tlC l (j + 1))
def Al (s : ByteArray) (i : Nat) (out : List ByteArray) : Prop :=
  ∀ l, vCells l = true → quoR l = s → ∃ j, j ≤ l.length ∧ out = l.take j ∧ ((j < l.length ∧ s.data.toList.drop i = quoL (nth l j).data.toList ++ tlC l (j + 1)) ∨ (j = l.length ∧ i = s.size + 1))
def FQ (s : ByteArray) (i : Nat) (cell X t : List UInt8) : Prop := ∃ a, a ≤ X.length ∧ cell = X.take a ∧ s.data.toList.drop i = dblQ (X.drop a) ++ 34 :: t
def FU (s : ByteArray) (i : Nat) (cell X t : List UInt8) : Prop := X.any qsB = false ∧ ∃ a, a ≤ X.length ∧ cell = X.take a ∧ s.data.toList.drop i = X.drop a ++ t
def FE (s : ByteArray) (i : Nat) (cell X t : List UInt8) : Prop := cell = X ∧ s.data.toList.drop i = t
theorem drop_get {s : ByteArray} {i : Nat} {c : UInt8} {r : List UInt8} (h : s.data.toList.drop i = c :: r) : ∃ hi : i < s.size, s[i] = c ∧ s.data.toList.drop (i + 1) = r := by
  have hlt : i < s.size := by
    rw [← len_eq]
    apply Classical.byContradiction
    intro hn
    rw [List.drop_of_length_le (by omega)] at h
    cases h
  refine ⟨hlt, ?_⟩
  rw [List.drop_eq_getElem_cons (by rw [len_eq]; exact hlt)] at h
  injection h with h1 h2
  exact ⟨h1, h2⟩
theorem drop_nil {s : ByteArray} {i : Nat} (h : s.data.toList.drop i = []) : ¬ i < s.size := by
  intro hi
  have := congrArg List.length h
  rw [List.length_drop, len_eq] at this
  simp at this; omega
theorem Al.start (s : ByteArray) : Al s 0 [] := by
  intro l hv hq
  obtain ⟨x, xs, rfl, e⟩ := quoR_data hv
  refine ⟨0, Nat.zero_le _, rfl, .inl ⟨by simp, ?_⟩⟩
  rw [← hq, List.drop_zero, e]; rfl
/-- a cell in quotes begins -/
theorem Al.quoted {s : ByteArray} {i : Nat} {out : List ByteArray} (h : Al s i out) (hi : i < s.size) (e : s[i] = 34) : At s out (FQ s (i + 1) []) := by
  intro l hv hq
  obtain ⟨j, hj, ho, h1 | ⟨_, h2⟩⟩ := h l hv hq
  · obtain ⟨hjl, hd⟩ := h1
    refine ⟨j, hjl, ho, ?_⟩
    generalize (nth l j).data.toList = X at hd ⊢
    cases hm : mustQ X with
    | true =>
      rw [quoL_must hm] at hd
      obtain ⟨_, _, h3⟩ := drop_get hd
      exact ⟨0, Nat.zero_le _, rfl, by rw [h3]; simp⟩
    | false =>
      obtain ⟨h4, h5⟩ := mustQ_parts hm
      rw [quoL_not hm] at hd
      cases X with
      | nil => exact absurd rfl h4
      | cons c r =>
        obtain ⟨_, h6, _⟩ := drop_get hd
        rw [List.any_cons, Bool.or_eq_false_iff] at h5
        rw [← h6, e] at h5
        exact absurd h5.1 (by decide)
  · omega
/-- a cell without quotes begins -/
theorem Al.unquoted {s : ByteArray} {i : Nat} {out : List ByteArray} (h : Al s i out) (hi : i ≤ s.size) (e : ∀ hi : i < s.size, ¬ s[i] = 34) : At s out (FU s i []) := by
  intro l hv hq
  obtain ⟨j, hj, ho, h1 | ⟨_, h2⟩⟩ := h l hv hq
  · obtain ⟨hjl, hd⟩ := h1
    refine ⟨j, hjl, ho, ?_⟩
    generalize (nth l j).data.toList = X at hd ⊢
    cases hm : mustQ X with
    | true =>
      rw [quoL_must hm] at hd
      obtain ⟨h3, h4, _⟩ := drop_get hd
      exact absurd h4 (e h3)
    | false =>
      rw [quoL_not hm] at hd
      exact ⟨(mustQ_parts hm).2, 0, Nat.zero_le _, rfl, by rw [hd]; rfl⟩
  · omega
theorem At.mono {s : ByteArray} {out : List ByteArray} {F G : List UInt8 → List UInt8 → Prop} (h : At s out F) (hFG : ∀ X t, (t = [] ∨ ∃ t', t = 44 :: t') → F X t → G X t) : At s out G := by
  intro l hv hq
  obtain ⟨j, h1, h2, h3⟩ := h l hv hq
  exact ⟨j, h1, h2, hFG _ _ (tlC_head l _) h3⟩
theorem take_get {X : List UInt8} {a : Nat} (h : a < X.length) : X.take a ++ [X[a]] = X.take (a + 1) := by
  rw [List.take_succ_eq_append_getElem h]
theorem FQ.plain {s : ByteArray} {i : Nat} {cell X t : List UInt8} (h : FQ s i cell X t) (hi : i < s.size) (e : ¬ s[i] = 34) : FQ s (i + 1) (cell ++ [s[i]]) X t := by
  obtain ⟨a, ha, hc, hd⟩ := h
  rcases Nat.lt_or_ge a X.length with h1 | h1
  · rw [List.drop_eq_getElem_cons h1, dblQ_cons] at hd
    by_cases hx : X[a] = 34
    · rw [dblC_quote hx] at hd
      obtain ⟨_, h2, _⟩ := drop_get hd
      exact absurd h2 e
    · rw [dblC_else hx] at hd
      obtain ⟨_, h2, h3⟩ := drop_get hd
      exact ⟨a + 1, h1, by rw [hc, h2, take_get h1], h3⟩
  · rw [List.drop_of_length_le h1] at hd
    obtain ⟨_, h2, _⟩ := drop_get (c := 34) hd
    exact absurd h2 e
theorem FQ.pair {s : ByteArray} {i : Nat} {cell X t : List UInt8} (h : FQ s i cell X t) (ht : t = [] ∨ ∃ t', t = 44 :: t') (hi : i < s.size) (e : s[i] = 34) (hi2 : i + 1 < s.size) (e2 : s[i + 1] = 34) : FQ s (i + 2) (cell ++ [s[i + 1]]) X t := by
  obtain ⟨a, ha, hc, hd⟩ := h
  rcases Nat.lt_or_ge a X.length with h1 | h1
  · rw [List.drop_eq_getElem_cons h1, dblQ_cons] at hd
    by_cases hx : X[a] = 34
    · rw [dblC_quote hx] at hd
      obtain ⟨_, _, h3⟩ := drop_get hd
      obtain ⟨_, _, h4⟩ := drop_get h3
      exact ⟨a + 1, h1, by rw [hc, e2, ← hx, take_get h1], h4⟩
    · rw [dblC_else hx] at hd
      obtain ⟨_, h2, _⟩ := drop_get hd
      rw [e] at h2
      exact absurd h2.symm hx
  · rw [List.drop_of_length_le h1] at hd
    obtain ⟨_, _, h3⟩ := drop_get (c := 34) hd
    rcases ht with rfl | ⟨t', rfl⟩
    · exact absurd hi2 (drop_nil h3)
    · obtain ⟨_, h4, _⟩ := drop_get h3
      rw [e2] at h4
      exact absurd h4 (by decide)
theorem FQ.stop {s : ByteArray} {i : Nat} {cell X t : List UInt8} (h : FQ s i cell X t) (e : ∀ hi : i < s.size, s[i] = 34 ∧ ∀ hi2 : i + 1 < s.size, ¬ s[i + 1] = 34) : i < s.size ∧ FE s (i + 1) cell X t := by
  obtain ⟨a, ha, hc, hd⟩ := h
  rcases Nat.lt_or_ge a X.length with h1 | h1
  · rw [List.drop_eq_getElem_cons h1, dblQ_cons] at hd
    by_cases hx : X[a] = 34
    · rw [dblC_quote hx] at hd
      obtain ⟨hi, _, h3⟩ := drop_get hd
      obtain ⟨hi2, h4, _⟩ := drop_get h3
      exact absurd h4 ((e hi).2 hi2)
    · rw [dblC_else hx] at hd
      obtain ⟨hi, h2, _⟩ := drop_get hd
      rw [(e hi).1] at h2
      exact absurd h2.symm hx
  · rw [List.drop_of_length_le h1] at hd
    obtain ⟨hi, _, h3⟩ := drop_get (c := 34) hd
    exact ⟨hi, by rw [hc, List.take_of_length_le h1], h3⟩
theorem FU.plain {s : ByteArray} {i : Nat} {cell X t : List UInt8} (h : FU s i cell X t) (ht : t = [] ∨ ∃ t', t = 44 :: t') (hi : i < s.size) (e : ¬ s[i] = 44) : FU s (i + 1) (cell ++ [s[i]]) X t := by
  obtain ⟨hq, a, ha, hc, hd⟩ := h
  rcases Nat.lt_or_ge a X.length with h1 | h1
  · rw [List.drop_eq_getElem_cons h1] at hd
    obtain ⟨_, h2, h3⟩ := drop_get hd
    exact ⟨hq, a + 1, h1, by rw [hc, h2, take_get h1], h3⟩
  · rw [List.drop_of_length_le h1] at hd
    rcases ht with rfl | ⟨t', rfl⟩
    · exact absurd hi (drop_nil hd)
    · obtain ⟨_, h4, _⟩ := drop_get hd
      exact absurd h4 e
theorem FU.stop {s : ByteArray} {i : Nat} {cell X t : List UInt8} (h : FU s i cell X t) (e : ∀ hi : i < s.size, s[i] = 44) : FE s i cell X t := by
  obtain ⟨hq, a, ha, hc, hd⟩ := h
  rcases Nat.lt_or_ge a X.length with h1 | h1
  · rw [List.drop_eq_getElem_cons h1] at hd
    obtain ⟨hi, h2, _⟩ := drop_get hd
    rw [e hi] at h2
    have hm : (X[a] : UInt8) ∈ X := List.getElem_mem h1
    have h5 : qsB X[a] = false := by
      have := List.any_eq_false.1 hq _ hm
      simpa using this
    rw [← h2] at h5
    exact absurd h5 (by decide)
  · rw [List.drop_of_length_le h1] at hd
    exact ⟨by rw [hc, List.take_of_length_le h1], hd⟩
/-- behind a cell: a comma or the end -/
theorem FE.comma {s : ByteArray} {i : Nat} {cell X t : List UInt8} (h : FE s i cell X t) (ht : t = [] ∨ ∃ t', t = 44 :: t') (hi : i < s.size) : s[i] = 44 := by
  obtain ⟨_, hd⟩ := h
  rcases ht with rfl | ⟨t', rfl⟩
  · exact absurd hi (drop_nil hd)
  · obtain ⟨_, h4, _⟩ := drop_get hd
    exact h4
theorem At.push {s : ByteArray} {i : Nat} {out : List ByteArray} {cell : List UInt8} (h : At s out (FE s i cell)) (hi : i ≤ s.size) : Al s (i + 1) (out ++ [bs cell]) := by
  intro l hv hq
  obtain ⟨j, hj, ho, hc, hd⟩ := h l hv hq
  refine ⟨j + 1, hj, ?_, ?_⟩
  · rw [ho, hc, bs_self, List.take_succ_eq_append_getElem hj, nth_eq hj]
  · rcases Nat.lt_or_ge (j + 1) l.length with h1 | h1
    · rw [tlC_more h1] at hd
      obtain ⟨_, _, h3⟩ := drop_get hd
      exact .inl ⟨h1, h3⟩
    · rw [tlC_end h1] at hd
      have := drop_nil hd
      exact .inr ⟨by omega, by omega⟩
theorem Al.all {s : ByteArray} {i : Nat} {out : List ByteArray} (h : Al s i out) (hi : s.size < i) : ∀ l, vCells l = true → quoR l = s → out = l := by
  intro l hv hq
  obtain ⟨j, hj, ho, ⟨hjl, hd⟩ | ⟨h1, _⟩⟩ := h l hv hq
  · rw [List.drop_of_length_le (by rw [len_eq]; omega)] at hd
    have h2 := (List.append_eq_nil_iff.1 hd.symm).1
    generalize (nth l j).data.toList = X at h2
    cases hm : mustQ X with
    | false => rw [quoL_not hm] at h2; exact absurd h2 (mustQ_parts hm).1
    | true => rw [quoL_must hm] at h2; simp at h2
  · rw [ho, h1, List.take_length]
end Go.Proofs.YtpfheanpbbfpdaaDoor.pl

