/- Plain: tables read back from their lines. -/
import Derived.Test.YtgfpbnafehpopaaDoorPlainRn
import Derived.Test.YtgfpbnafehpopaaDoorPlainR
namespace Go.Proofs.YtgfpbnafehpopaaDoor.pl
set_option maxRecDepth 100000

/-- a line is cut where a bar stands between two spaces, from the left on; the number: bytes that still belong to the bar -/
def cutG : Nat → List UInt8 → List UInt8 → List (List UInt8)
  | _, cur, [] => [cur]
  | s + 1, cur, _ :: r => cutG s cur r
  | 0, cur, c :: r => if c = 32 ∧ r.take 2 = [124, 32] then cur :: cutG 2 [] r else cutG 0 (cur ++ [c]) r
theorem cutG_skip (s : Nat) (cur : List UInt8) (c : UInt8) (r : List UInt8) : cutG (s + 1) cur (c :: r) = cutG s cur r := rfl
theorem cutG_bar (cur r : List UInt8) : cutG 0 cur (32 :: 124 :: 32 :: r) = cur :: cutG 0 [] r := by
  conv => lhs; unfold cutG
  rw [if_pos ⟨rfl, by simp⟩]; rfl
theorem cutG_byte {c : UInt8} {r : List UInt8} (cur : List UInt8) (h : ¬ (c = 32 ∧ r.take 2 = [124, 32])) : cutG 0 cur (c :: r) = cutG 0 (cur ++ [c]) r := by
  conv => lhs; unfold cutG
  rw [if_neg h]
theorem cutG_plain : ∀ (x cur r : List UInt8), 124 ∉ x → cutG 0 cur (x ++ 32 :: 124 :: 32 :: r) = (cur ++ x) :: cutG 0 [] r
  | [], cur, r, _ => by rw [List.nil_append, List.append_nil, cutG_bar]
  | c :: x, cur, r, h => by
    have hx : 124 ∉ x := fun e => h (List.mem_cons_of_mem _ e)
    rw [List.cons_append, cutG_byte cur, cutG_plain x _ r hx]
    · simp
    · rintro ⟨_, e⟩
      cases x with
      | nil => simp at e
      | cons d y =>
        simp at e
        exact hx (by rw [e.1]; simp)
theorem cutG_last : ∀ (x cur : List UInt8), 124 ∉ x → cutG 0 cur x = [cur ++ x]
  | [], cur, _ => by unfold cutG; simp
  | c :: x, cur, h => by
    have hx : 124 ∉ x := fun e => h (List.mem_cons_of_mem _ e)
    rw [cutG_byte cur, cutG_last x _ hx]
    · simp
    · rintro ⟨_, e⟩
      cases x with
      | nil => simp at e
      | cons d y =>
        simp at e
        exact hx (by rw [e.1]; simp)
theorem cutG_join : ∀ (xs : List (List UInt8)) (x : List UInt8), 124 ∉ x → (∀ y ∈ xs, 124 ∉ y) → cutG 0 [] (x ++ Lib.joinTail [32, 124, 32] xs) = x :: xs
  | [], x, h, _ => by
    have : Lib.joinTail [32, 124, 32] ([] : List (List UInt8)) = [] := by simp [Lib.joinTail]
    rw [this, List.append_nil, cutG_last x [] h, List.nil_append]
  | y :: ys, x, h, hs => by
    have : Lib.joinTail [32, 124, 32] (y :: ys) = 32 :: 124 :: 32 :: (y ++ Lib.joinTail [32, 124, 32] ys) := by simp [Lib.joinTail]
    rw [this, cutG_plain x [] _ h, List.nil_append, cutG_join ys y (hs y (by simp)) (fun z hz => hs z (List.mem_cons_of_mem _ hz))]

/-- without spaces ahead and behind -/
def trimL (l : List UInt8) : List UInt8 := (rtrim l).drop (leadL (rtrim l))
def trimB (x : ByteArray) : ByteArray := bs (trimL x.data.toList)
def readRow (x : ByteArray) : List ByteArray := (cutG 0 [] x.data.toList).map fun p => bs (trimL p)
def readP (ls : List ByteArray) : Gs := ls.map readRow
def shortLs (ls : List ByteArray) : Bool := ls.all fun x => decide (x.size ≤ 180)
def readB (ls : List ByteArray) : Bool := shortLs ls && vRows (readP ls)
def readR (ls : List ByteArray) : Gs := if readB ls = true then readP ls else []
theorem readP_len (ls : List ByteArray) : (readP ls).length = ls.length := by simp [readP]
theorem readP_nth {ls : List ByteArray} {i : Nat} (h : i < ls.length) : nthP (readP ls) i = readRow (nth ls i) := by
  rw [nthP_eq (by rw [readP_len]; exact h), nth_eq h]; simp [readP]
theorem readR_yes {ls : List ByteArray} (h : readB ls = true) : readR ls = readP ls := by simp [readR, h]
theorem readR_no {ls : List ByteArray} (h : readB ls = false) : readR ls = [] := by simp [readR, h]
theorem shortLs_no {ls : List ByteArray} {k : Nat} (hk : k < ls.length) (h : 180 < (nth ls k).size) : shortLs ls = false := by
  unfold shortLs
  rw [List.all_eq_false]
  exact ⟨ls[k], List.getElem_mem hk, by rw [← nth_eq hk]; simp; omega⟩
theorem shortLs_yes {ls : List ByteArray} (h : ∀ k, k < ls.length → (nth ls k).size ≤ 180) : shortLs ls = true := by
  unfold shortLs
  rw [List.all_eq_true]
  intro x hx
  obtain ⟨i, hi, rfl⟩ := List.getElem_of_mem hx
  rw [← nth_eq hi]; exact decide_eq_true (h i hi)
theorem cutG_len : ∀ (l : List UInt8) (s : Nat) (cur : List UInt8), (cutG s cur l).length ≤ l.length + 1
  | [], s, cur => by unfold cutG; simp
  | c :: r, s + 1, cur => by
    rw [cutG_skip]
    have := cutG_len r s cur
    simp; omega
  | c :: r, 0, cur => by
    by_cases h : c = 32 ∧ r.take 2 = [124, 32]
    · conv => lhs; unfold cutG
      rw [if_pos h]
      have := cutG_len r 2 []
      simp; omega
    · rw [cutG_byte cur h]
      have := cutG_len r 0 (cur ++ [c])
      simp; omega
theorem readRow_len (x : ByteArray) : (readRow x).length ≤ x.size + 1 := by
  unfold readRow
  rw [List.length_map, ← len_eq]; exact cutG_len _ _ _

theorem rcut_app (l r : List UInt8) : ∀ n, n ≤ l.length → rcut (l ++ r) n = rcut l n
  | 0, _ => rfl
  | n + 1, h => by
    have e : (l ++ r)[n]? = l[n]? := List.getElem?_append_left (by omega)
    unfold rcut
    rw [e, rcut_app l r n (by omega)]
theorem rtrim_sp1 (l : List UInt8) : rtrim (l ++ [32]) = rtrim l := by
  unfold rtrim
  have e : rcut (l ++ [32]) (l ++ [32]).length = rcut l l.length := by
    rw [List.length_append, List.length_singleton, rcut_sp (by simp), rcut_app l [32] _ (Nat.le_refl _)]
  rw [e, List.take_append_of_le_length (rcut_le _ _)]
theorem spL_snoc (n : Nat) : spL (n + 1) = spL n ++ [32] := List.replicate_succ'
theorem rtrim_sps (l : List UInt8) : ∀ n, rtrim (l ++ spL n) = rtrim l
  | 0 => by rw [show spL 0 = [] from rfl, List.append_nil]
  | n + 1 => by rw [spL_snoc, ← List.append_assoc, rtrim_sp1, rtrim_sps l n]
theorem rtrim_last {l : List UInt8} (h : ¬ l.getLast? = some 32) : rtrim l = l := by
  unfold rtrim
  cases hl : l.length with
  | zero => rw [List.length_eq_zero_iff.1 hl]; rfl
  | succ n =>
    have : ¬ l[n]? = some 32 := by
      intro e; apply h
      rw [List.getLast?_eq_getElem?, hl]; exact e
    rw [rcut_no this, ← hl, List.take_length]
theorem rtrim_getLast (l : List UInt8) : ¬ (rtrim l).getLast? = some 32 := by
  unfold rtrim
  generalize hn : l.length = n
  have hle : n ≤ l.length := by omega
  clear hn
  induction n with
  | zero => simp [rcut]
  | succ n ih =>
    by_cases h : l[n]? = some 32
    · rw [rcut_sp h]; exact ih (by omega)
    · rw [rcut_no h]
      intro e
      apply h
      rw [List.getLast?_eq_getElem?, List.length_take, Nat.min_eq_left hle] at e
      rw [List.getElem?_take, if_pos (by omega)] at e
      exact e
theorem leadL_sps (l : List UInt8) : ∀ n, leadL (spL n ++ l) = n + leadL l
  | 0 => by rw [show spL 0 = [] from rfl, List.nil_append, Nat.zero_add]
  | n + 1 => by
    rw [spL_succ, List.cons_append]
    conv => lhs; unfold leadL
    rw [if_pos rfl, leadL_sps l n]; omega
theorem leadL_head {l : List UInt8} (h : ¬ l.head? = some 32) : leadL l = 0 := by
  cases l with
  | nil => rfl
  | cons c r =>
    unfold leadL
    rw [if_neg (fun e => h (by rw [e]; rfl))]
theorem lead_drop_head : ∀ l : List UInt8, ¬ (l.drop (leadL l)).head? = some 32
  | [] => by simp [leadL]
  | c :: r => by
    unfold leadL
    by_cases h : c = 32
    · rw [if_pos h, List.drop_succ_cons]; exact lead_drop_head r
    · rw [if_neg h]; simpa using h
/-- a text that begins or ends with a space -/
def raggedL (l : List UInt8) : Bool := decide (l.head? = some 32) || decide (l.getLast? = some 32)
theorem raggedL_no {l : List UInt8} (h : raggedL l = false) : ¬ l.head? = some 32 ∧ ¬ l.getLast? = some 32 := by
  unfold raggedL at h
  simpa using h
theorem trim_padded {x : List UInt8} (a b : Nat) (h : raggedL x = false) : trimL (spL a ++ x ++ spL b) = x := by
  obtain ⟨h1, h2⟩ := raggedL_no h
  unfold trimL
  rw [rtrim_sps]
  cases x with
  | nil =>
    have : rtrim (spL a ++ []) = [] := by
      have := rtrim_sps [] a
      rw [List.nil_append] at this
      rw [List.append_nil, this]; rfl
    rw [this]; rfl
  | cons c r =>
    have e : rtrim (spL a ++ c :: r) = spL a ++ c :: r := rtrim_last (by
      rw [List.getLast?_append]
      intro e; apply h2
      rw [← e]
      cases h3 : (c :: r).getLast? with
      | none => simp at h3
      | some d => rfl)
    rw [e, leadL_sps, leadL_head h1, Nat.add_zero, List.drop_append_of_le_length (by simp [spL])]
    have : (spL a).drop a = [] := List.drop_of_length_le (by simp [spL])
    rw [this, List.nil_append]
theorem trim_ragged (l : List UInt8) : raggedL (trimL l) = false := by
  unfold raggedL
  have h1 : ¬ (trimL l).head? = some 32 := lead_drop_head _
  have h2 : ¬ (trimL l).getLast? = some 32 := by
    unfold trimL
    intro e
    apply rtrim_getLast l
    generalize rtrim l = y at e ⊢
    have hne : y.drop (leadL y) ≠ [] := by intro h; rw [h] at e; simp at e
    have hy : y = y.take (leadL y) ++ y.drop (leadL y) := (List.take_append_drop _ _).symm
    rw [hy, List.getLast?_append, e]; rfl
  simp [h1, h2]
theorem trim_mem {l : List UInt8} {c : UInt8} (h : c ∈ trimL l) : c ∈ l := List.mem_of_mem_take (List.mem_of_mem_drop h)

theorem toL_draw (f : Nat → ByteArray) (n : Nat) : toL (drawL f n) = (List.range n).map fun k => (f k).data.toList := by
  unfold toL drawL; rw [List.map_map]; rfl
/-- plain cells: no bar, no space at the ends -/
def plainC (x : ByteArray) : Bool := decide (124 ∉ x.data.toList) && !raggedL x.data.toList
theorem plainC_parts {x : ByteArray} (h : plainC x = true) : 124 ∉ x.data.toList ∧ raggedL x.data.toList = false := by
  unfold plainC at h
  simpa using h
theorem padded_bar {a b : Nat} {x : ByteArray} (h : 124 ∉ x.data.toList) : 124 ∉ (padded a x b).data.toList := by
  rw [padded_data]
  intro e
  rw [List.mem_append, List.mem_append] at e
  rcases e with (e | e) | e
  · have := sp_memb e; cases this
  · exact h e
  · have := sp_memb e; cases this
theorem line_read {ps : Gs} {hs : List ByteArray} (h : rendB ps hs = true) {i : Nat} (hi : i < ps.length) (hp : ∀ k, k < colsN ps → plainC (nth (nthP ps i) k) = true) : readRow (lineP ps hs i) = nthP ps i := by
  obtain ⟨hv, _, _⟩ := rendB_parts h
  have hpos : 0 < colsN ps := vRows_pos hv (by omega)
  have hrow := vRows_row hv hi
  have hd : (lineP ps hs i).data.toList = Lib.join ((List.range (colsN ps)).map fun k => (cellP ps hs i k).data.toList) [32, 124, 32] := by
    unfold lineP rowP joinB
    rw [bs_data, toL_draw]; rfl
  have hbar : ∀ y ∈ (List.range (colsN ps)).map (fun k => (cellP ps hs i k).data.toList), 124 ∉ y := by
    intro y hy
    obtain ⟨k, hk, rfl⟩ := List.mem_map.1 hy
    have hk := List.mem_range.1 hk
    obtain ⟨a, b, e, _⟩ := cellP_shape h hi hk
    simp only [e]
    exact padded_bar (plainC_parts (hp k hk)).1
  unfold readRow
  rw [hd]
  have hc : cutG 0 [] (Lib.join ((List.range (colsN ps)).map fun k => (cellP ps hs i k).data.toList) [32, 124, 32]) = (List.range (colsN ps)).map fun k => (cellP ps hs i k).data.toList := by
    generalize hL : (List.range (colsN ps)).map (fun k => (cellP ps hs i k).data.toList) = L at hbar ⊢
    cases L with
    | nil =>
      have := congrArg List.length hL
      simp at this; omega
    | cons x xs =>
      have e : Lib.join (x :: xs) [32, 124, 32] = x ++ Lib.joinTail [32, 124, 32] xs := Lib.join_cons _ _ _
      rw [e]
      exact cutG_join xs x (hbar x (by simp)) (fun y hy => hbar y (List.mem_cons_of_mem _ hy))
  rw [hc, List.map_map]
  apply nth_ext
  · simp [hrow.1]
  · intro k hk
    have hk : k < colsN ps := by simpa using hk
    rw [nth_eq (by simpa using hk)]
    simp only [List.getElem_map, List.getElem_range, Function.comp]
    obtain ⟨a, b, e, _⟩ := cellP_shape h hi hk
    rw [e, padded_data, trim_padded a b (plainC_parts (hp k hk)).2, bs_self]
theorem rend_read {ps : Gs} {hs : List ByteArray} (h : rendB ps hs = true) (hp : ∀ i k, i < ps.length → k < colsN ps → plainC (nth (nthP ps i) k) = true) : readB (rendL ps hs) = true ∧ readP (rendL ps hs) = ps := by
  obtain ⟨hv, _, _⟩ := rendB_parts h
  have e : readP (rendL ps hs) = ps := by
    apply nthP_ext
    · rw [readP_len, rendL_len]
    · intro i hi
      rw [readP_len, rendL_len] at hi
      rw [readP_nth (by rw [rendL_len]; exact hi)]
      unfold rendL
      rw [drawL_nth _ hi]
      exact line_read h hi (fun k hk => hp i k hi hk)
  refine ⟨?_, e⟩
  unfold readB
  rw [e, hv, Bool.and_true]
  refine shortLs_yes (fun k hk => ?_)
  rw [rendL_len] at hk
  unfold rendL
  rw [drawL_nth _ hk]
  have := lineP_le h hk
  omega
theorem read_cells {ls : List ByteArray} {i k : Nat} (hi : i < ls.length) (hk : k < (nthP (readP ls) i).length) : raggedL (nth (nthP (readP ls) i) k).data.toList = false := by
  rw [readP_nth hi] at hk ⊢
  unfold readRow at hk ⊢
  rw [nth_eq hk, List.getElem_map, bs_data]
  exact trim_ragged _
end Go.Proofs.YtgfpbnafehpopaaDoor.pl
