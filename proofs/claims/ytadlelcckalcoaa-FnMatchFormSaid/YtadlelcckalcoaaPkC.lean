/- Joined texts: PlainRn PlainRd PlainRp PlainRs PlainQc. -/
import Derived.Test.YtadlelcckalcoaaPkB
import Derived.Test.YtadlelcckalcoaaPkA
import Derived.Lib.Replace
import Derived.Lib.SplitLaws
import Derived.Lib.IndexAny
/- Plain: tables in columns: lines of padded cells. -/
namespace Go.Proofs.Ytadlelcckalcoaa.pl
set_option maxRecDepth 100000

def barS : ByteArray := ⟨#[32, 124, 32]⟩
def howB (h : ByteArray) : Bool := decide (h.data.toList = hLeft) || decide (h.data.toList = hRight) || decide (h.data.toList = hMid)
theorem howB_of {h : ByteArray} {l r m : Bool} (hh : How h l r m) : howB h = (l || r || m) := by
  obtain ⟨h1, h2, h3⟩ := hh
  rw [Lib.toList_data] at h1 h2 h3
  unfold howB
  have e1 : decide (h.data.toList = hLeft) = l := by rw [← h1]; exact (Bool.beq_eq_decide_eq _ _).symm
  have e2 : decide (h.data.toList = hRight) = r := by rw [← h2]; exact (Bool.beq_eq_decide_eq _ _).symm
  have e3 : decide (h.data.toList = hMid) = m := by rw [← h3]; exact (Bool.beq_eq_decide_eq _ _).symm
  rw [e1, e2, e3]
theorem howB_parts {h : ByteArray} (hh : howB h = true) : h.data.toList = hLeft ∨ h.data.toList = hRight ∨ h.data.toList = hMid := by
  unfold howB at hh
  simp only [Bool.or_eq_true, decide_eq_true_eq] at hh
  rcases hh with (h1 | h1) | h1
  · exact .inl h1
  · exact .inr (.inl h1)
  · exact .inr (.inr h1)

def cellP (ps : Gs) (hs : List ByteArray) (i k : Nat) : ByteArray := padB (nth (nthP ps i) k) (wide (colL ps k) : Nat) (nth hs k)
def rowP (ps : Gs) (hs : List ByteArray) (i : Nat) : List ByteArray := drawL (cellP ps hs i) (colsN ps)
def lineP (ps : Gs) (hs : List ByteArray) (i : Nat) : ByteArray := joinB (rowP ps hs i) barS
def rendL (ps : Gs) (hs : List ByteArray) : List ByteArray := drawL (lineP ps hs) ps.length
def rendB (ps : Gs) (hs : List ByteArray) : Bool := vRows ps && decide (hs.length = colsN ps) && hs.all howB
def rendR (ps : Gs) (hs : List ByteArray) : List ByteArray := if rendB ps hs = true then rendL ps hs else []
theorem rendL_len (ps : Gs) (hs : List ByteArray) : (rendL ps hs).length = ps.length := drawL_len _ _
theorem rowP_len (ps : Gs) (hs : List ByteArray) (i : Nat) : (rowP ps hs i).length = colsN ps := drawL_len _ _
theorem rendL_nil {ps : Gs} (hs : List ByteArray) (h : ps.length = 0) : rendL ps hs = [] := by unfold rendL; rw [h]; rfl
theorem rendR_yes {ps : Gs} {hs : List ByteArray} (h : rendB ps hs = true) : rendR ps hs = rendL ps hs := by simp [rendR, h]
theorem rendR_no {ps : Gs} {hs : List ByteArray} (h : rendB ps hs = false) : rendR ps hs = [] := by simp [rendR, h]
theorem rendR_nil {ps : Gs} (hs : List ByteArray) (h : ps.length = 0) : rendR ps hs = [] := by
  unfold rendR; split
  · exact rendL_nil hs h
  · rfl
theorem hows_all {hs : List ByteArray} (h : ∀ i, i < hs.length → howB (nth hs i) = true) : hs.all howB = true := by
  rw [List.all_eq_true]
  intro x hx
  obtain ⟨i, hi, rfl⟩ := List.getElem_of_mem hx
  rw [← nth_eq hi]; exact h i hi
theorem rendB_yes {ps : Gs} {hs : List ByteArray} (h1 : vRows ps = true) (h2 : hs.length = colsN ps) (h3 : ∀ i, i < hs.length → howB (nth hs i) = true) : rendB ps hs = true := by
  unfold rendB; rw [h1, decide_eq_true h2, hows_all h3]; rfl
theorem rendB_rows {ps : Gs} {hs : List ByteArray} (h : vRows ps = false) : rendB ps hs = false := by unfold rendB; rw [h]; rfl
theorem rendB_len {ps : Gs} {hs : List ByteArray} (h : ¬ hs.length = colsN ps) : rendB ps hs = false := by unfold rendB; rw [decide_eq_false h]; simp
theorem rendB_how {ps : Gs} {hs : List ByteArray} {k : Nat} (hk : k < hs.length) (h : howB (nth hs k) = false) : rendB ps hs = false := by
  unfold rendB
  have : hs.all howB = false := by
    rw [List.all_eq_false]
    exact ⟨hs[k], List.getElem_mem hk, by rw [← nth_eq hk, h]; simp⟩
  rw [this, Bool.and_false]
theorem rendB_parts {ps : Gs} {hs : List ByteArray} (h : rendB ps hs = true) : vRows ps = true ∧ hs.length = colsN ps ∧ ∀ i, i < hs.length → howB (nth hs i) = true := by
  unfold rendB at h
  simp only [Bool.and_eq_true, decide_eq_true_eq, List.all_eq_true] at h
  exact ⟨h.1.1, h.1.2, fun i hi => by rw [nth_eq hi]; exact h.2 _ (List.getElem_mem hi)⟩

/-- a padded cell is the cell with spaces ahead and behind -/
theorem padB_shape {s : ByteArray} {wd : Nat} {h : ByteArray} (hv : validT s.data.toList = true) (h2 : wd ≤ 120) (hs : s.size ≤ wd) (hh : howB h = true) : ∃ i j, padB s wd h = padded i s j ∧ i + s.size + j = wd := by
  rcases howB_parts hh with e | e | e
  · exact ⟨0, wd - s.size, by rw [padB_left hv h2 e]; unfold padded; rw [sp0_app], by omega⟩
  · exact ⟨wd - s.size, 0, by rw [padB_right hv h2 e]; unfold padded; rw [app_sp0], by omega⟩
  · exact ⟨(wd - s.size) / 2, wd - s.size - (wd - s.size) / 2, by rw [padB_mid hv h2 e]; rfl, by omega⟩
theorem cellP_shape {ps : Gs} {hs : List ByteArray} (h : rendB ps hs = true) {i k : Nat} (hi : i < ps.length) (hk : k < colsN ps) : ∃ a b, cellP ps hs i k = padded a (nth (nthP ps i) k) b ∧ a + (nth (nthP ps i) k).size + b = wide (colL ps k) := by
  obtain ⟨h1, h2, h3⟩ := rendB_parts h
  exact padB_shape (colL_text h1 hk i hi) (by have := wide_col h1 hk; omega) (le_wide_col hi) (h3 k (by omega))
theorem cellP_size {ps : Gs} {hs : List ByteArray} (h : rendB ps hs = true) {i k : Nat} (hi : i < ps.length) (hk : k < colsN ps) : (cellP ps hs i k).size = wide (colL ps k) := by
  obtain ⟨a, b, e, hz⟩ := cellP_shape h hi hk
  rw [e, padded_size, hz]

/-- the length of a joined row -/
def totW (f : Nat → Nat) : Nat → Nat
  | 0 => 0
  | k + 1 => totW f k + (if k = 0 then 0 else 3) + f k
theorem drawL_succ (f : Nat → ByteArray) (n : Nat) : drawL f (n + 1) = drawL f n ++ [f n] := by
  unfold drawL; rw [List.range_succ, List.map_append]; rfl
theorem join_draw (f : Nat → ByteArray) : ∀ n, (joinB (drawL f n) barS).size = totW (fun k => (f k).size) n
  | 0 => by rw [show drawL f 0 = [] from rfl, joinB_nil]; rfl
  | 1 => by
    rw [show drawL f 1 = [f 0] from rfl, joinB_one]
    simp [totW]
  | n + 2 => by
    rw [drawL_succ, joinB_snoc (by intro e; have := congrArg List.length e; rw [drawL_len] at this; simp at this), ByteArray.size_append, ByteArray.size_append, join_draw f (n + 1)]
    conv => rhs; unfold totW
    rw [if_neg (by omega)]
    have : barS.size = 3 := rfl
    omega
theorem totW_congr {f g : Nat → Nat} : ∀ n, (∀ k, k < n → f k = g k) → totW f n = totW g n
  | 0, _ => rfl
  | n + 1, h => by unfold totW; rw [totW_congr n (fun k hk => h k (by omega)), h n (by omega)]
theorem totW_le {f : Nat → Nat} {M : Nat} : ∀ n, (∀ k, k < n → f k ≤ M) → totW f n ≤ (M + 3) * n
  | 0, _ => by simp [totW]
  | n + 1, h => by
    unfold totW
    have h1 := totW_le n (fun k hk => h k (by omega))
    have h2 := h n (by omega)
    rw [Nat.mul_succ]
    split <;> omega
theorem lineP_size {ps : Gs} {hs : List ByteArray} (h : rendB ps hs = true) {i : Nat} (hi : i < ps.length) : (lineP ps hs i).size = totW (fun k => wide (colL ps k)) (colsN ps) := by
  unfold lineP rowP
  rw [join_draw]
  exact totW_congr _ (fun k hk => cellP_size h hi hk)
theorem lineP_le {ps : Gs} {hs : List ByteArray} (h : rendB ps hs = true) {i : Nat} (hi : i < ps.length) : (lineP ps hs i).size ≤ 95 := by
  obtain ⟨h1, _, _⟩ := rendB_parts h
  have h5 := vRows_cols h1
  rw [lineP_size h hi]
  have := totW_le (f := fun k => wide (colL ps k)) (M := 16) (colsN ps) (fun k hk => wide_col h1 hk)
  omega
theorem rendR_sizes (ps : Gs) (hs : List ByteArray) : ∀ i, i < (rendR ps hs).length → (nth (rendR ps hs) i).size ≤ 95 := by
  intro i hi
  by_cases h : rendB ps hs = true
  · rw [rendR_yes h] at hi ⊢
    rw [rendL_len] at hi
    unfold rendL
    rw [drawL_nth _ hi]; exact lineP_le h hi
  · rw [rendR_no (by simpa using h)] at hi; simp at hi
theorem rendR_len (ps : Gs) (hs : List ByteArray) : (rendR ps hs).length ≤ 6 := by
  by_cases h : rendB ps hs = true
  · rw [rendR_yes h, rendL_len]; exact (vRows_parts (rendB_parts h).1).1
  · rw [rendR_no (by simpa using h)]; simp
end Go.Proofs.Ytadlelcckalcoaa.pl

/- Plain: tables read back from their lines. -/
namespace Go.Proofs.Ytadlelcckalcoaa.pl
set_option maxRecDepth 100000

/-- a line is cut where a bar stands between two spaces, from the left on; the number: bytes that still belong to the bar -/
def cutG : Nat → List UInt8 → List UInt8 → List (List UInt8)
  | _, cur, [] => [cur]
  | s + 1, cur, _ :: r => cutG s cur r
  | 0, cur, c :: r => if c = 32 ∧ r.take 2 = [124, 32] then cur :: cutG 2 [] r else cutG 0 (cur ++ [c]) r
theorem cutG_skip (s : Nat) (cur : List UInt8) (c : UInt8) (r : List UInt8) : cutG (s + 1) cur (c :: r) = cutG s cur r := rfl
theorem cutG_bar (cur r : List UInt8) : cutG 0 cur (32 :: 124 :: 32 :: r) = cur :: cutG 0 [] r := by
  conv => lhs; unfold cutG
  rw [if_pos ⟨rfl, by simp⟩]; rfl
theorem cutG_byte {c : UInt8} {r : List UInt8} (cur : List UInt8) (h : ¬ (c = 32 ∧ r.take 2 = [124, 32])) : cutG 0 cur (c :: r) = cutG 0 (cur ++ [c]) r := by
  conv => lhs; unfold cutG
  rw [if_neg h]
theorem cutG_plain : ∀ (x cur r : List UInt8), 124 ∉ x → cutG 0 cur (x ++ 32 :: 124 :: 32 :: r) = (cur ++ x) :: cutG 0 [] r
  | [], cur, r, _ => by rw [List.nil_append, List.append_nil, cutG_bar]
  | c :: x, cur, r, h => by
    have hx : 124 ∉ x := fun e => h (List.mem_cons_of_mem _ e)
    rw [List.cons_append, cutG_byte cur, cutG_plain x _ r hx]
    · simp
    · rintro ⟨_, e⟩
      cases x with
      | nil => simp at e
      | cons d y =>
        simp at e
        exact hx (by rw [e.1]; simp)
theorem cutG_last : ∀ (x cur : List UInt8), 124 ∉ x → cutG 0 cur x = [cur ++ x]
  | [], cur, _ => by unfold cutG; simp
  | c :: x, cur, h => by
    have hx : 124 ∉ x := fun e => h (List.mem_cons_of_mem _ e)
    rw [cutG_byte cur, cutG_last x _ hx]
    · simp
    · rintro ⟨_, e⟩
      cases x with
      | nil => simp at e
      | cons d y =>
        simp at e
        exact hx (by rw [e.1]; simp)
theorem cutG_join : ∀ (xs : List (List UInt8)) (x : List UInt8), 124 ∉ x → (∀ y ∈ xs, 124 ∉ y) → cutG 0 [] (x ++ Lib.joinTail [32, 124, 32] xs) = x :: xs
  | [], x, h, _ => by
    have : Lib.joinTail [32, 124, 32] ([] : List (List UInt8)) = [] := by simp [Lib.joinTail]
    rw [this, List.append_nil, cutG_last x [] h, List.nil_append]
  | y :: ys, x, h, hs => by
    have : Lib.joinTail [32, 124, 32] (y :: ys) = 32 :: 124 :: 32 :: (y ++ Lib.joinTail [32, 124, 32] ys) := by simp [Lib.joinTail]
    rw [this, cutG_plain x [] _ h, List.nil_append, cutG_join ys y (hs y (by simp)) (fun z hz => hs z (List.mem_cons_of_mem _ hz))]

/-- without spaces ahead and behind -/
def trimL (l : List UInt8) : List UInt8 := (rtrim l).drop (leadL (rtrim l))
def trimB (x : ByteArray) : ByteArray := bs (trimL x.data.toList)
def readRow (x : ByteArray) : List ByteArray := (cutG 0 [] x.data.toList).map fun p => bs (trimL p)
def readP (ls : List ByteArray) : Gs := ls.map readRow
def shortLs (ls : List ByteArray) : Bool := ls.all fun x => decide (x.size ≤ 180)
def readB (ls : List ByteArray) : Bool := shortLs ls && vRows (readP ls)
def readR (ls : List ByteArray) : Gs := if readB ls = true then readP ls else []
theorem readP_len (ls : List ByteArray) : (readP ls).length = ls.length := by simp [readP]
theorem readP_nth {ls : List ByteArray} {i : Nat} (h : i < ls.length) : nthP (readP ls) i = readRow (nth ls i) := by
  rw [nthP_eq (by rw [readP_len]; exact h), nth_eq h]; simp [readP]
theorem readR_yes {ls : List ByteArray} (h : readB ls = true) : readR ls = readP ls := by simp [readR, h]
theorem readR_no {ls : List ByteArray} (h : readB ls = false) : readR ls = [] := by simp [readR, h]
theorem shortLs_no {ls : List ByteArray} {k : Nat} (hk : k < ls.length) (h : 180 < (nth ls k).size) : shortLs ls = false := by
  unfold shortLs
  rw [List.all_eq_false]
  exact ⟨ls[k], List.getElem_mem hk, by rw [← nth_eq hk]; simp; omega⟩
theorem shortLs_yes {ls : List ByteArray} (h : ∀ k, k < ls.length → (nth ls k).size ≤ 180) : shortLs ls = true := by
  unfold shortLs
  rw [List.all_eq_true]
  intro x hx
  obtain ⟨i, hi, rfl⟩ := List.getElem_of_mem hx
  rw [← nth_eq hi]; exact decide_eq_true (h i hi)
theorem cutG_len : ∀ (l : List UInt8) (s : Nat) (cur : List UInt8), (cutG s cur l).length ≤ l.length + 1
  | [], s, cur => by unfold cutG; simp
  | c :: r, s + 1, cur => by
    rw [cutG_skip]
    have := cutG_len r s cur
    simp; omega
  | c :: r, 0, cur => by
    by_cases h : c = 32 ∧ r.take 2 = [124, 32]
    · conv => lhs; unfold cutG
      rw [if_pos h]
      have := cutG_len r 2 []
      simp; omega
    · rw [cutG_byte cur h]
      have := cutG_len r 0 (cur ++ [c])
      simp; omega
theorem readRow_len (x : ByteArray) : (readRow x).length ≤ x.size + 1 := by
  unfold readRow
  rw [List.length_map, ← len_eq]; exact cutG_len _ _ _

theorem rcut_app (l r : List UInt8) : ∀ n, n ≤ l.length → rcut (l ++ r) n = rcut l n
  | 0, _ => rfl
  | n + 1, h => by
    have e : (l ++ r)[n]? = l[n]? := List.getElem?_append_left (by omega)
    unfold rcut
    rw [e, rcut_app l r n (by omega)]
theorem rtrim_sp1 (l : List UInt8) : rtrim (l ++ [32]) = rtrim l := by
  unfold rtrim
  have e : rcut (l ++ [32]) (l ++ [32]).length = rcut l l.length := by
    rw [List.length_append, List.length_singleton, rcut_sp (by simp), rcut_app l [32] _ (Nat.le_refl _)]
  rw [e, List.take_append_of_le_length (rcut_le _ _)]
theorem spL_snoc (n : Nat) : spL (n + 1) = spL n ++ [32] := List.replicate_succ'
theorem rtrim_sps (l : List UInt8) : ∀ n, rtrim (l ++ spL n) = rtrim l
  | 0 => by rw [show spL 0 = [] from rfl, List.append_nil]
  | n + 1 => by rw [spL_snoc, ← List.append_assoc, rtrim_sp1, rtrim_sps l n]
theorem rtrim_last {l : List UInt8} (h : ¬ l.getLast? = some 32) : rtrim l = l := by
  unfold rtrim
  cases hl : l.length with
  | zero => rw [List.length_eq_zero_iff.1 hl]; rfl
  | succ n =>
    have : ¬ l[n]? = some 32 := by
      intro e; apply h
      rw [List.getLast?_eq_getElem?, hl]; exact e
    rw [rcut_no this, ← hl, List.take_length]
theorem rtrim_getLast (l : List UInt8) : ¬ (rtrim l).getLast? = some 32 := by
  unfold rtrim
  generalize hn : l.length = n
  have hle : n ≤ l.length := by omega
  clear hn
  induction n with
  | zero => simp [rcut]
  | succ n ih =>
    by_cases h : l[n]? = some 32
    · rw [rcut_sp h]; exact ih (by omega)
    · rw [rcut_no h]
      intro e
      apply h
      rw [List.getLast?_eq_getElem?, List.length_take, Nat.min_eq_left hle] at e
      rw [List.getElem?_take, if_pos (by omega)] at e
      exact e
theorem leadL_sps (l : List UInt8) : ∀ n, leadL (spL n ++ l) = n + leadL l
  | 0 => by rw [show spL 0 = [] from rfl, List.nil_append, Nat.zero_add]
  | n + 1 => by
    rw [spL_succ, List.cons_append]
    conv => lhs; unfold leadL
    rw [if_pos rfl, leadL_sps l n]; omega
theorem leadL_head {l : List UInt8} (h : ¬ l.head? = some 32) : leadL l = 0 := by
  cases l with
  | nil => rfl
  | cons c r =>
    unfold leadL
    rw [if_neg (fun e => h (by rw [e]; rfl))]
theorem lead_drop_head : ∀ l : List UInt8, ¬ (l.drop (leadL l)).head? = some 32
  | [] => by simp [leadL]
  | c :: r => by
    unfold leadL
    by_cases h : c = 32
    · rw [if_pos h, List.drop_succ_cons]; exact lead_drop_head r
    · rw [if_neg h]; simpa using h
/-- a text that begins or ends with a space -/
def raggedL (l : List UInt8) : Bool := decide (l.head? = some 32) || decide (l.getLast? = some 32)
theorem raggedL_no {l : List UInt8} (h : raggedL l = false) : ¬ l.head? = some 32 ∧ ¬ l.getLast? = some 32 := by
  unfold raggedL at h
  simpa using h
theorem trim_padded {x : List UInt8} (a b : Nat) (h : raggedL x = false) : trimL (spL a ++ x ++ spL b) = x := by
  obtain ⟨h1, h2⟩ := raggedL_no h
  unfold trimL
  rw [rtrim_sps]
  cases x with
  | nil =>
    have : rtrim (spL a ++ []) = [] := by
      have := rtrim_sps [] a
      rw [List.nil_append] at this
      rw [List.append_nil, this]; rfl
    rw [this]; rfl
  | cons c r =>
    have e : rtrim (spL a ++ c :: r) = spL a ++ c :: r := rtrim_last (by
      rw [List.getLast?_append]
      intro e; apply h2
      rw [← e]
      cases h3 : (c :: r).getLast? with
      | none => simp at h3
      | some d => rfl)
    rw [e, leadL_sps, leadL_head h1, Nat.add_zero, List.drop_append_of_le_length (by simp [spL])]
    have : (spL a).drop a = [] := List.drop_of_length_le (by simp [spL])
    rw [this, List.nil_append]
theorem trim_ragged (l : List UInt8) : raggedL (trimL l) = false := by
  unfold raggedL
  have h1 : ¬ (trimL l).head? = some 32 := lead_drop_head _
  have h2 : ¬ (trimL l).getLast? = some 32 := by
    unfold trimL
    intro e
    apply rtrim_getLast l
    generalize rtrim l = y at e ⊢
    have hne : y.drop (leadL y) ≠ [] := by intro h; rw [h] at e; simp at e
    have hy : y = y.take (leadL y) ++ y.drop (leadL y) := (List.take_append_drop _ _).symm
    rw [hy, List.getLast?_append, e]; rfl
  simp [h1, h2]
theorem trim_mem {l : List UInt8} {c : UInt8} (h : c ∈ trimL l) : c ∈ l := List.mem_of_mem_take (List.mem_of_mem_drop h)

theorem toL_draw (f : Nat → ByteArray) (n : Nat) : toL (drawL f n) = (List.range n).map fun k => (f k).data.toList := by
  unfold toL drawL; rw [List.map_map]; rfl
/-- plain cells: no bar, no space at the ends -/
def plainC (x : ByteArray) : Bool := decide (124 ∉ x.data.toList) && !raggedL x.data.toList
theorem plainC_parts {x : ByteArray} (h : plainC x = true) : 124 ∉ x.data.toList ∧ raggedL x.data.toList = false := by
  unfold plainC at h
  simpa using h
theorem padded_bar {a b : Nat} {x : ByteArray} (h : 124 ∉ x.data.toList) : 124 ∉ (padded a x b).data.toList := by
  rw [padded_data]
  intro e
  rw [List.mem_append, List.mem_append] at e
  rcases e with (e | e) | e
  · have := sp_memb e; cases this
  · exact h e
  · have := sp_memb e; cases this
theorem line_read {ps : Gs} {hs : List ByteArray} (h : rendB ps hs = true) {i : Nat} (hi : i < ps.length) (hp : ∀ k, k < colsN ps → plainC (nth (nthP ps i) k) = true) : readRow (lineP ps hs i) = nthP ps i := by
  obtain ⟨hv, _, _⟩ := rendB_parts h
  have hpos : 0 < colsN ps := vRows_pos hv (by omega)
  have hrow := vRows_row hv hi
  have hd : (lineP ps hs i).data.toList = Lib.join ((List.range (colsN ps)).map fun k => (cellP ps hs i k).data.toList) [32, 124, 32] := by
    unfold lineP rowP joinB
    rw [bs_data, toL_draw]; rfl
  have hbar : ∀ y ∈ (List.range (colsN ps)).map (fun k => (cellP ps hs i k).data.toList), 124 ∉ y := by
    intro y hy
    obtain ⟨k, hk, rfl⟩ := List.mem_map.1 hy
    have hk := List.mem_range.1 hk
    obtain ⟨a, b, e, _⟩ := cellP_shape h hi hk
    simp only [e]
    exact padded_bar (plainC_parts (hp k hk)).1
  unfold readRow
  rw [hd]
  have hc : cutG 0 [] (Lib.join ((List.range (colsN ps)).map fun k => (cellP ps hs i k).data.toList) [32, 124, 32]) = (List.range (colsN ps)).map fun k => (cellP ps hs i k).data.toList := by
    generalize hL : (List.range (colsN ps)).map (fun k => (cellP ps hs i k).data.toList) = L at hbar ⊢
    cases L with
    | nil =>
      have := congrArg List.length hL
      simp at this; omega
    | cons x xs =>
      have e : Lib.join (x :: xs) [32, 124, 32] = x ++ Lib.joinTail [32, 124, 32] xs := Lib.join_cons _ _ _
      rw [e]
      exact cutG_join xs x (hbar x (by simp)) (fun y hy => hbar y (List.mem_cons_of_mem _ hy))
  rw [hc, List.map_map]
  apply nth_ext
  · simp [hrow.1]
  · intro k hk
    have hk : k < colsN ps := by simpa using hk
    rw [nth_eq (by simpa using hk)]
    simp only [List.getElem_map, List.getElem_range, Function.comp]
    obtain ⟨a, b, e, _⟩ := cellP_shape h hi hk
    rw [e, padded_data, trim_padded a b (plainC_parts (hp k hk)).2, bs_self]
theorem rend_read {ps : Gs} {hs : List ByteArray} (h : rendB ps hs = true) (hp : ∀ i k, i < ps.length → k < colsN ps → plainC (nth (nthP ps i) k) = true) : readB (rendL ps hs) = true ∧ readP (rendL ps hs) = ps := by
  obtain ⟨hv, _, _⟩ := rendB_parts h
  have e : readP (rendL ps hs) = ps := by
    apply nthP_ext
    · rw [readP_len, rendL_len]
    · intro i hi
      rw [readP_len, rendL_len] at hi
      rw [readP_nth (by rw [rendL_len]; exact hi)]
      unfold rendL
      rw [drawL_nth _ hi]
      exact line_read h hi (fun k hk => hp i k hi hk)
  refine ⟨?_, e⟩
  unfold readB
  rw [e, hv, Bool.and_true]
  refine shortLs_yes (fun k hk => ?_)
  rw [rendL_len] at hk
  unfold rendL
  rw [drawL_nth _ hk]
  have := lineP_le h hk
  omega
theorem read_cells {ls : List ByteArray} {i k : Nat} (hi : i < ls.length) (hk : k < (nthP (readP ls) i).length) : raggedL (nth (nthP (readP ls) i) k).data.toList = false := by
  rw [readP_nth hi] at hk ⊢
  unfold readRow at hk ⊢
  rw [nth_eq hk, List.getElem_map, bs_data]
  exact trim_ragged _
end Go.Proofs.Ytadlelcckalcoaa.pl

/- Plain: the library's words for parts and for what stands in place of others, byte by byte. -/
namespace Go.Proofs.Ytadlelcckalcoaa.pl
set_option maxRecDepth 100000

theorem index_here {sub : List UInt8} {c : UInt8} {r : List UInt8} (h : sub.isPrefixOf (c :: r) = true) : Lib.index (c :: r) sub = ((0 : Nat) : Int) := by
  unfold Lib.index; rw [if_pos h]; rfl
theorem index_none' {sub : List UInt8} {c : UInt8} {r : List UInt8} (h : sub.isPrefixOf (c :: r) = false) (h2 : Lib.index r sub = -1) : Lib.index (c :: r) sub = -1 := by
  unfold Lib.index; rw [h, h2]; rfl
theorem index_later {sub : List UInt8} {c : UInt8} {r : List UInt8} {i : Nat} (h : sub.isPrefixOf (c :: r) = false) (h2 : Lib.index r sub = (i : Int)) : Lib.index (c :: r) sub = ((i + 1 : Nat) : Int) := by
  unfold Lib.index; rw [h, h2]
  have : ((i : Int) == -1) = false := by rw [beq_eq_false_iff_ne]; omega
  rw [this]; simp
theorem index_or (s sub : List UInt8) : Lib.index s sub = -1 ∨ ∃ i : Nat, Lib.index s sub = (i : Int) := by
  have := Lib.index_ge s sub
  by_cases h : Lib.index s sub = -1
  · exact .inl h
  · exact .inr ⟨(Lib.index s sub).toNat, by omega⟩

/-- what stands in place of each old, byte by byte; the number: bytes that still belong to an old -/
def raG (old new : List UInt8) : Nat → List UInt8 → List UInt8
  | _, [] => []
  | s + 1, _ :: r => raG old new s r
  | 0, c :: r => if old.isPrefixOf (c :: r) then new ++ raG old new (old.length - 1) r else c :: raG old new 0 r
theorem raG_skip (old new : List UInt8) : ∀ (s : Nat) (l : List UInt8), raG old new s l = raG old new 0 (l.drop s)
  | 0, l => by rw [List.drop_zero]
  | s + 1, [] => by simp [raG]
  | s + 1, c :: r => by rw [List.drop_succ_cons, ← raG_skip old new s r]; rfl
theorem raG_hit {old new : List UInt8} {c : UInt8} {r : List UInt8} (h0 : old ≠ []) (h : old.isPrefixOf (c :: r) = true) : raG old new 0 (c :: r) = new ++ raG old new 0 ((c :: r).drop old.length) := by
  conv => lhs; unfold raG
  rw [if_pos h, raG_skip]
  congr 2
  cases old with
  | nil => exact absurd rfl h0
  | cons d o => simp
theorem raG_miss {old new : List UInt8} {c : UInt8} {r : List UInt8} (h : old.isPrefixOf (c :: r) = false) : raG old new 0 (c :: r) = c :: raG old new 0 r := by
  conv => lhs; unfold raG
  rw [if_neg (by rw [h]; simp)]
theorem replaceK_raG (old new : List UInt8) (h0 : old ≠ []) : ∀ (n : Nat) (s : List UInt8), s.length ≤ n → Lib.replaceK old new (Lib.count s old) s = raG old new 0 s
  | n, [], _ => by
    have hi : Lib.index [] old = -1 := by
      unfold Lib.index
      cases old with
      | nil => exact absurd rfl h0
      | cons d o => rfl
    rw [Lib.count_miss hi]; rfl
  | 0, c :: r, h => by simp at h
  | n + 1, c :: r, h => by
    have hr : r.length ≤ n := by simpa using h
    cases hp : old.isPrefixOf (c :: r) with
    | true =>
      have hix := index_here hp
      rw [Lib.count_hit h0 hix, Nat.add_comm, Lib.replaceK_hit old new _ _ 0 hix, raG_hit h0 hp]
      have hl : 0 < old.length := List.length_pos_iff.2 h0
      rw [Nat.zero_add, replaceK_raG old new h0 n _ (by rw [List.length_drop]; simp; omega)]; rfl
    | false =>
      rw [raG_miss hp]
      rcases index_or r old with hm | ⟨i, hm⟩
      · have hix := index_none' hp hm
        rw [Lib.count_miss hix]
        have := replaceK_raG old new h0 n r hr
        rw [Lib.count_miss hm] at this
        rw [← this]; rfl
      · have hix := index_later hp hm
        have := replaceK_raG old new h0 n r hr
        rw [Lib.count_hit h0 hm, Nat.add_comm, Lib.replaceK_hit old new _ _ i hm] at this
        rw [Lib.count_hit h0 hix, Nat.add_comm, Lib.replaceK_hit old new _ _ (i + 1) hix, ← this]
        have e : (c :: r).drop (i + 1 + old.length) = r.drop (i + old.length) := by
          rw [show i + 1 + old.length = (i + old.length) + 1 from by omega, List.drop_succ_cons]
        rw [e, List.take_succ_cons]; rfl
theorem replaceAll_raG {old new : List UInt8} (h0 : old ≠ []) (h1 : ¬ old = new) (s : List UInt8) : Lib.replaceAll s old new = raG old new 0 s := by
  unfold Lib.replaceAll Lib.replace
  have e1 : (old == new) = false := beq_eq_false_iff_ne.2 h1
  have e2 : Lib.replaceNum s old (-1) = Lib.count s old := by unfold Lib.replaceNum; rw [if_pos (.inl (by decide))]
  rw [e1, e2]
  exact replaceK_raG old new h0 s.length s (Nat.le_refl _)

theorem bar_prefix (c : UInt8) (r : List UInt8) : ([32, 124, 32] : List UInt8).isPrefixOf (c :: r) = true ↔ (c = 32 ∧ r.take 2 = [124, 32]) := by
  cases r with
  | nil => simp [List.isPrefixOf]
  | cons d r =>
    cases r with
    | nil => simp [List.isPrefixOf]
    | cons e r =>
      simp only [List.isPrefixOf, Bool.and_eq_true, beq_iff_eq, Bool.and_true]
      constructor
      · rintro ⟨h1, h2, h3⟩; exact ⟨h1.symm, by simp [← h2, ← h3]⟩
      · rintro ⟨h1, h2⟩
        simp at h2
        exact ⟨h1.symm, h2.1.symm, h2.2.symm⟩
theorem cutG_drop : ∀ (s : Nat) (cur l : List UInt8), s ≤ l.length → cutG s cur l = cutG 0 cur (l.drop s)
  | 0, cur, l, _ => by rw [List.drop_zero]
  | s + 1, cur, [], h => by simp at h
  | s + 1, cur, c :: r, h => by rw [cutG_skip, List.drop_succ_cons]; exact cutG_drop s cur r (by simpa using h)
/-- the bytes that were read belong to the first part -/
def glue (cur : List UInt8) : List (List UInt8) → List (List UInt8)
  | [] => [cur]
  | p :: r => (cur ++ p) :: r
theorem splitK_ne (sep : List UInt8) (save : Nat) : ∀ (k : Nat) (s : List UInt8), Lib.splitK sep save k s ≠ []
  | 0, s => by simp [Lib.splitK]
  | k + 1, s => by unfold Lib.splitK; split <;> simp
theorem splitK_cutG : ∀ (n : Nat) (s cur : List UInt8), s.length ≤ n → glue cur (Lib.splitK [32, 124, 32] 0 (Lib.count s [32, 124, 32]) s) = cutG 0 cur s
  | n, [], cur, _ => by
    have hi : Lib.index [] ([32, 124, 32] : List UInt8) = -1 := rfl
    rw [Lib.count_miss hi]
    show glue cur [[]] = _
    unfold glue cutG; simp
  | 0, c :: r, _, h => by simp at h
  | n + 1, c :: r, cur, h => by
    have hr : r.length ≤ n := by simpa using h
    have h0 : ([32, 124, 32] : List UInt8) ≠ [] := by simp
    cases hp : ([32, 124, 32] : List UInt8).isPrefixOf (c :: r) with
    | true =>
      obtain ⟨rfl, h2⟩ := (bar_prefix c r).1 hp
      have hix := index_here hp
      have hl : 2 ≤ r.length := by
        have := congrArg List.length h2
        simp at this; omega
      rw [Lib.count_hit h0 hix, Nat.add_comm]
      conv => rhs; unfold cutG
      rw [if_pos ⟨rfl, h2⟩]
      unfold Lib.splitK
      have hm : (Lib.index (32 :: r) [32, 124, 32] == -1) = false := by rw [hix]; rfl
      rw [hm, hix]
      simp only [Bool.false_eq_true, if_false, Int.toNat_natCast, Nat.zero_add, List.take_zero, glue, List.append_nil]
      congr 1
      have ih := splitK_cutG n ((32 :: r).drop ([32, 124, 32] : List UInt8).length) [] (by rw [List.length_drop]; simp; omega)
      have e2 : (32 :: r).drop ([32, 124, 32] : List UInt8).length = r.drop 2 := by simp
      rw [e2] at ih ⊢
      rw [cutG_drop 2 [] r hl, ← ih]
      have hne : Lib.splitK [32, 124, 32] 0 (Lib.count (r.drop 2) [32, 124, 32]) (r.drop 2) ≠ [] := splitK_ne _ _ _ _
      generalize Lib.splitK [32, 124, 32] 0 (Lib.count (r.drop 2) [32, 124, 32]) (r.drop 2) = X at hne ⊢
      cases X with
      | nil => exact absurd rfl hne
      | cons p q => unfold glue; simp
    | false =>
      have hq : ¬ (c = 32 ∧ r.take 2 = [124, 32]) := fun e => by rw [(bar_prefix c r).2 e] at hp; cases hp
      rw [cutG_byte cur hq, ← splitK_cutG n r (cur ++ [c]) hr]
      rcases index_or r [32, 124, 32] with hm | ⟨i, hm⟩
      · have hix := index_none' hp hm
        rw [Lib.count_miss hix, Lib.count_miss hm]
        show glue cur [c :: r] = glue (cur ++ [c]) [r]
        unfold glue; simp
      · have hix := index_later hp hm
        rw [Lib.count_hit h0 hix, Lib.count_hit h0 hm, Nat.add_comm 1, Nat.add_comm 1]
        have e : (c :: r).drop (i + 1 + ([32, 124, 32] : List UInt8).length) = r.drop (i + ([32, 124, 32] : List UInt8).length) := by
          rw [show i + 1 + ([32, 124, 32] : List UInt8).length = (i + ([32, 124, 32] : List UInt8).length) + 1 from by omega, List.drop_succ_cons]
        unfold Lib.splitK
        have m1 : (Lib.index (c :: r) [32, 124, 32] == -1) = false := by rw [hix]; exact beq_eq_false_iff_ne.2 (by omega)
        have m2 : (Lib.index r [32, 124, 32] == -1) = false := by rw [hm]; exact beq_eq_false_iff_ne.2 (by omega)
        rw [m1, m2, hix, hm]
        simp only [Bool.false_eq_true, if_false, Int.toNat_natCast, Nat.add_zero]
        rw [e, List.take_succ_cons]
        unfold glue; simp
end Go.Proofs.Ytadlelcckalcoaa.pl

/- Plain: the library's cut of a line is the table's. -/
namespace Go.Proofs.Ytadlelcckalcoaa.pl
set_option maxRecDepth 100000

def partsB (x : ByteArray) : List ByteArray := (cutG 0 [] x.data.toList).map bs
theorem readRow_parts (x : ByteArray) : readRow x = (partsB x).map trimB := by
  unfold readRow partsB
  rw [List.map_map]; rfl
theorem splitB_parts (x : ByteArray) : Lib.splitB barS 0 (Lib.countB x barS) x = partsB x := by
  have h1 := Lib.splitB_data barS 0 (Lib.countB x barS) x
  have h2 := splitK_cutG x.size x.data.toList [] (by rw [len_eq]; exact Nat.le_refl _)
  have hb : barS.data.toList = [32, 124, 32] := rfl
  have hc : Lib.countB x barS = Lib.count x.data.toList [32, 124, 32] := rfl
  rw [hb, hc] at h1
  have h3 : ∀ X : List (List UInt8), X ≠ [] → glue [] X = X := fun X hX => by
    cases X with
    | nil => exact absurd rfl hX
    | cons p r => simp [glue]
  rw [h3 _ (splitK_ne _ _ _ _)] at h2
  rw [h2] at h1
  unfold partsB
  rw [← h1, List.map_map, hc]
  conv => lhs; rw [← List.map_id (Lib.splitB barS 0 (Lib.count x.data.toList [32, 124, 32]) x)]
  exact List.map_congr_left fun a _ => (bs_self a).symm
theorem splitB_len (x : ByteArray) : (partsB x).length = Lib.countB x barS + 1 := by
  rw [← splitB_parts]
  exact Lib.splitB_all barS (by decide) 0 _ x rfl
theorem partsB_len (x : ByteArray) : 0 < (partsB x).length ∧ (partsB x).length ≤ x.size + 1 := by
  constructor
  · rw [splitB_len]; omega
  · unfold partsB
    rw [List.length_map, ← len_eq]; exact cutG_len _ _ _
theorem cutG_size : ∀ (l : List UInt8) (s : Nat) (cur p : List UInt8), p ∈ cutG s cur l → p.length ≤ cur.length + l.length
  | [], s, cur, p, h => by
    unfold cutG at h
    simp at h; subst h; simp
  | c :: r, s + 1, cur, p, h => by
    rw [cutG_skip] at h
    have := cutG_size r s cur p h
    simp; omega
  | c :: r, 0, cur, p, h => by
    by_cases hb : c = 32 ∧ r.take 2 = [124, 32]
    · unfold cutG at h
      rw [if_pos hb] at h
      rcases List.mem_cons.1 h with rfl | h
      · simp
      · have := cutG_size r 2 [] p h
        simp at this ⊢; omega
    · rw [cutG_byte cur hb] at h
      have := cutG_size r 0 _ p h
      simp at this ⊢; omega
theorem partsB_size (x : ByteArray) : ∀ i, i < (partsB x).length → (nth (partsB x) i).size ≤ x.size := by
  intro i hi
  have hm : nth (partsB x) i ∈ partsB x := by rw [nth_eq hi]; exact List.getElem_mem hi
  unfold partsB at hm
  obtain ⟨p, hp, he⟩ := List.mem_map.1 hm
  have h1 := cutG_size _ _ _ _ hp
  rw [len_eq] at h1
  unfold partsB at *
  rw [← he]
  show p.length ≤ _
  simpa using h1
theorem trimB_size (x : ByteArray) : (trimB x).size ≤ x.size := by
  show (trimL x.data.toList).length ≤ _
  have := rtrim_len x.data.toList
  rw [len_eq] at this
  unfold trimL
  rw [List.length_drop]; omega
theorem trimB_two (x : ByteArray) : ltrim (bs (rtrim x.data.toList)) = trimB x := rfl
theorem readRow_len2 (x : ByteArray) : (readRow x).length = (partsB x).length := by rw [readRow_parts, List.length_map]
theorem readRow_size (x : ByteArray) : ∀ i, i < (readRow x).length → (nth (readRow x) i).size ≤ x.size := by
  intro i hi
  rw [readRow_len2] at hi
  rw [readRow_parts, nth_eq (by simpa using hi), List.getElem_map]
  have h1 := trimB_size ((partsB x)[i])
  have h2 := partsB_size x i hi
  rw [nth_eq hi] at h2
  omega
theorem readP_small {ls : List ByteArray} (hl : ls.length ≤ 1048576) (h : ∀ i, i < ls.length → (nth ls i).size ≤ 180) :
    (readP ls).length ≤ 1048576 ∧ (∀ k, k < (readP ls).length → (nthP (readP ls) k).length ≤ 1048576) ∧ ∀ k, k < (readP ls).length → ∀ i, i < (nthP (readP ls) k).length → (nth (nthP (readP ls) k) i).size ≤ 1048576 := by
  refine ⟨by rw [readP_len]; exact hl, fun k hk => ?_, fun k hk i hi => ?_⟩
  · rw [readP_len] at hk
    rw [readP_nth hk, readRow_len2]
    have := (partsB_len (nth ls k)).2
    have := h k hk
    omega
  · rw [readP_len] at hk
    rw [readP_nth hk] at hi ⊢
    have := readRow_size _ i hi
    have := h k hk
    omega
theorem lead_split : ∀ l : List UInt8, spL (leadL l) ++ l.drop (leadL l) = l
  | [] => rfl
  | c :: r => by
    unfold leadL
    by_cases h : c = 32
    · rw [if_pos h, spL_succ, List.drop_succ_cons, List.cons_append, lead_split r, h]
    · rw [if_neg h]; rfl
theorem rcut_split (l : List UInt8) : ∀ n, n ≤ l.length → l.take (rcut l n) ++ spL (n - rcut l n) = l.take n
  | 0, _ => rfl
  | n + 1, h => by
    by_cases e : l[n]? = some 32
    · have ih := rcut_split l n (by omega)
      have hle := rcut_le l n
      rw [rcut_sp e, show n + 1 - rcut l n = (n - rcut l n) + 1 from by omega, spL_snoc, ← List.append_assoc, ih]
      rw [List.take_add_one, e]; rfl
    · rw [rcut_no e, Nat.sub_self]
      show _ ++ [] = _
      rw [List.append_nil]
theorem rtrim_split (l : List UInt8) : ∃ b, rtrim l ++ spL b = l :=
  ⟨_, by have := rcut_split l l.length (Nat.le_refl _); rw [List.take_length] at this; exact this⟩
/-- first ahead, then behind -/
theorem trim_comm (l : List UInt8) : rtrim (l.drop (leadL l)) = trimL l := by
  obtain ⟨b, hb⟩ := rtrim_split (l.drop (leadL l))
  have hl := lead_split l
  have h1 := lead_drop_head l
  have h2 := rtrim_getLast (l.drop (leadL l))
  generalize hm : rtrim (l.drop (leadL l)) = m at hb h2 ⊢
  have hr : raggedL m = false := by
    unfold raggedL
    have h3 : ¬ m.head? = some 32 := by
      intro e
      apply h1
      rw [← hb]
      cases m with
      | nil => simp at e
      | cons c r => exact e
    simp [h2, h3]
  have := trim_padded (leadL l) b hr
  rw [List.append_assoc, hb, hl] at this
  exact this.symm
theorem readB_long {ls : List ByteArray} (h : shortLs ls = false) : readB ls = false := by unfold readB; rw [h]; rfl
theorem readB_rows {ls : List ByteArray} (h : ∀ i, i < ls.length → (nth ls i).size ≤ 180) : readB ls = vRows (readP ls) := by unfold readB; rw [shortLs_yes h]; rfl
theorem readB_many {ls : List ByteArray} (h : 6 < ls.length) : readB ls = false := by
  unfold readB
  rw [vRows_long (by rw [readP_len]; exact h), Bool.and_false]
end Go.Proofs.Ytadlelcckalcoaa.pl

/- Plain: a cell as it stands between commas. -/
namespace Go.Proofs.Ytadlelcckalcoaa.pl
set_option maxRecDepth 100000

def qsB (c : UInt8) : Bool := c == 44 || c == 34 || c == 32
def mustQ (l : List UInt8) : Bool := l.isEmpty || l.any qsB
def dblC (c : UInt8) : List UInt8 := if c = 34 then [34, 34] else [c]
def dblQ (l : List UInt8) : List UInt8 := l.flatMap dblC
def quoL (l : List UInt8) : List UInt8 := if mustQ l = true then 34 :: (dblQ l ++ [34]) else l
def quoB (s : ByteArray) : ByteArray := bs (quoL s.data.toList)

theorem dblQ_nil : dblQ [] = [] := rfl
theorem dblQ_cons (c : UInt8) (r : List UInt8) : dblQ (c :: r) = dblC c ++ dblQ r := rfl
theorem dblQ_append (a b : List UInt8) : dblQ (a ++ b) = dblQ a ++ dblQ b := List.flatMap_append
theorem dblC_quote {c : UInt8} (h : c = 34) : dblC c = [34, 34] := by simp [dblC, h]
theorem dblC_else {c : UInt8} (h : c ≠ 34) : dblC c = [c] := by simp [dblC, h]
theorem dblC_len (c : UInt8) : (dblC c).length ≤ 2 := by unfold dblC; split <;> simp
theorem dblQ_len : ∀ l : List UInt8, (dblQ l).length ≤ 2 * l.length
  | [] => by simp [dblQ]
  | c :: r => by
    rw [dblQ_cons, List.length_append, List.length_cons]
    have := dblC_len c
    have := dblQ_len r
    omega
theorem raG_dbl : ∀ l : List UInt8, raG [34] [34, 34] 0 l = dblQ l
  | [] => rfl
  | c :: r => by
    rw [dblQ_cons]
    by_cases h : c = 34
    · subst h
      rw [raG_hit (by simp) (by simp [List.isPrefixOf]), dblC_quote rfl]
      show [34, 34] ++ raG [34] [34, 34] 0 r = _
      rw [raG_dbl r]
    · rw [raG_miss (by simp [List.isPrefixOf]; exact fun e => h e.symm), dblC_else h, raG_dbl r]; rfl
theorem replaceAll_dbl (l : List UInt8) : Lib.replaceAll l [34] [34, 34] = dblQ l := by
  rw [replaceAll_raG (by simp) (by simp), raG_dbl]
theorem indexAny_qs : ∀ l : List UInt8, (0 ≤ Lib.indexAny l [44, 34, 32]) ↔ l.any qsB = true
  | [] => by simp [Lib.indexAny]
  | c :: r => by
    have ih := indexAny_qs r
    have ge := Lib.indexAny_ge [44, 34, 32] r
    have e : ([44, 34, 32] : List UInt8).contains c = qsB c := by
      unfold qsB
      simp only [List.contains_cons, List.contains_nil, Bool.or_false, Bool.or_assoc]
    unfold Lib.indexAny
    rw [e, List.any_cons]
    by_cases hq : qsB c = true
    · simp [hq]
    · have hq' : qsB c = false := by simpa using hq
      rw [hq', Bool.false_or, ← ih]
      by_cases h1 : Lib.indexAny r [44, 34, 32] = -1
      · simp [h1]
      · have h2 : (Lib.indexAny r [44, 34, 32] == -1) = false := by simpa using h1
        rw [h2]; simp; omega
theorem containsAny_qs (l : List UInt8) : Lib.containsAny l [44, 34, 32] = l.any qsB := by
  unfold Lib.containsAny
  have := indexAny_qs l
  by_cases h : l.any qsB = true
  · rw [h]; exact decide_eq_true (this.2 h)
  · have h' : l.any qsB = false := by simpa using h
    rw [h']; exact decide_eq_false (fun e => h (this.1 e))
theorem dblQ_same : ∀ {l : List UInt8}, l.any qsB = false → dblQ l = l
  | [], _ => rfl
  | c :: r, h => by
    rw [List.any_cons, Bool.or_eq_false_iff] at h
    have hc : c ≠ 34 := by rintro rfl; exact absurd h.1 (by decide)
    rw [dblQ_cons, dblC_else hc, dblQ_same h.2]; rfl
theorem mustQ_parts {l : List UInt8} (h : mustQ l = false) : l ≠ [] ∧ l.any qsB = false := by
  unfold mustQ at h
  rw [Bool.or_eq_false_iff] at h
  exact ⟨by intro e; rw [e] at h; exact absurd h.1 (by decide), h.2⟩
theorem quoL_must {l : List UInt8} (h : mustQ l = true) : quoL l = 34 :: (dblQ l ++ [34]) := by simp [quoL, h]
theorem quoL_not {l : List UInt8} (h : mustQ l = false) : quoL l = l := by simp [quoL, h]
theorem quoL_not' {l : List UInt8} (h : mustQ l = false) : quoL l = dblQ l := by rw [quoL_not h, dblQ_same (mustQ_parts h).2]
theorem quoL_len (l : List UInt8) : (quoL l).length ≤ 2 * l.length + 2 := by
  unfold quoL
  have := dblQ_len l
  split
  · simp; omega
  · omega
theorem quoB_size (s : ByteArray) : (quoB s).size ≤ 2 * s.size + 2 := by
  have := quoL_len s.data.toList
  rw [len_eq] at this
  exact this
theorem bs_one' (o : List UInt8) (c : UInt8) : bs o ++ bs [c] = bs (o ++ [c]) := ByteArray.mk_append_mk _ _
theorem bs_app (a b : List UInt8) : bs a ++ bs b = bs (a ++ b) := ByteArray.mk_append_mk _ _
theorem quoB_must {s : ByteArray} (h : mustQ s.data.toList = true) : (⟨#[34]⟩ ++ bs (dblQ s.data.toList)) ++ ⟨#[34]⟩ = quoB s := by
  unfold quoB
  rw [quoL_must h]
  show (bs [34] ++ bs (dblQ s.data.toList)) ++ bs [34] = _
  rw [bs_app, bs_app]; rfl
theorem quoB_not {s : ByteArray} (h : mustQ s.data.toList = false) : s = quoB s := by
  unfold quoB; rw [quoL_not h]; rfl
theorem quoB_not' {s : ByteArray} (h : mustQ s.data.toList = false) : bs (dblQ s.data.toList) = quoB s := by
  unfold quoB; rw [quoL_not' h]

/-- the model's loop -/
def mustTo (s : ByteArray) (k : Nat) : Bool := s.data.toList.isEmpty || (s.data.toList.take k).any qsB
def dblTo (s : ByteArray) (k : Nat) : List UInt8 := dblQ (s.data.toList.take k)
theorem mustTo_zero (s : ByteArray) : mustTo s 0 = s.data.toList.isEmpty := by simp [mustTo]
theorem mustTo_all (s : ByteArray) : mustTo s s.size = mustQ s.data.toList := by
  unfold mustTo mustQ; rw [List.take_of_length_le (by rw [len_eq]; exact Nat.le_refl _)]
theorem dblTo_all (s : ByteArray) : dblTo s s.size = dblQ s.data.toList := by
  unfold dblTo; rw [List.take_of_length_le (by rw [len_eq]; exact Nat.le_refl _)]
theorem mustTo_succ {s : ByteArray} {k : Nat} (h : k < s.size) : mustTo s (k + 1) = (mustTo s k || qsB s[k]) := by
  unfold mustTo; rw [take_snoc h, List.any_append]; simp [Bool.or_assoc]
theorem dblTo_succ {s : ByteArray} {k : Nat} (h : k < s.size) : dblTo s (k + 1) = dblTo s k ++ dblC s[k] := by
  unfold dblTo; rw [take_snoc h, dblQ_append]; simp [dblQ]
theorem dblTo_len {s : ByteArray} {k : Nat} (h : k ≤ s.size) : (dblTo s k).length ≤ 2 * s.size := by
  have := dblQ_len (s.data.toList.take k)
  have h2 : (s.data.toList.take k).length ≤ s.size := by rw [List.length_take, len_eq]; omega
  unfold dblTo; omega
theorem dblB_size {s : ByteArray} (h : s.size ≤ 1000) : (bs (dblQ s.data.toList)).size ≤ 2000 := by
  have := dblQ_len s.data.toList
  rw [len_eq] at this
  show (dblQ s.data.toList).length ≤ _
  omega
theorem dblB_size1 {s : ByteArray} (h : s.size ≤ 1000) : (⟨#[34]⟩ ++ bs (dblQ s.data.toList)).size ≤ 2001 := by
  have := dblB_size h
  rw [ByteArray.size_append]
  show 1 + _ ≤ _
  omega
theorem byte_neN {c n : UInt8} (h : c ≠ n) {m : Int} (hm : m = n.toNat) : ¬ (c.toNat : Int) = m := by
  intro e
  exact h (UInt8.toNat_inj.1 (by omega))
theorem qsB_no {c : UInt8} (h1 : c ≠ 44) (h2 : c ≠ 34) (h3 : c ≠ 32) : qsB c = false := by simp [qsB, h1, h2, h3]

def comma : ByteArray := ⟨#[44]⟩
/-- QuoteCells -/
def quoR (l : List ByteArray) : ByteArray := if vCells l = true then joinB (l.map quoB) comma else bs []
theorem quoR_no {l : List ByteArray} (h : vCells l = false) : quoR l = bs [] := by simp [quoR, h]
theorem quoR_yes {l : List ByteArray} (h : vCells l = true) : quoR l = joinB (l.map quoB) comma := by simp [quoR, h]
def qTo (l : List ByteArray) (k : Nat) : List ByteArray := (l.take k).map quoB
theorem qTo_zero (l : List ByteArray) : qTo l 0 = [] := rfl
theorem qTo_succ {l : List ByteArray} {k : Nat} {x : ByteArray} (h : k < l.length) (hx : quoB (nth l k) = x) : qTo l k ++ [x] = qTo l (k + 1) := by
  unfold qTo
  rw [List.take_succ_eq_append_getElem h, List.map_append, ← hx, nth_eq h]; rfl
theorem qTo_all (l : List ByteArray) : qTo l l.length = l.map quoB := by simp [qTo]
theorem qTo_len {l : List ByteArray} {k : Nat} (h : k ≤ l.length) : (qTo l k).length = k := by simp [qTo]; omega
theorem nth_mapQ {l : List ByteArray} {i : Nat} (h : i < l.length) : nth (l.map quoB) i = quoB (nth l i) := by
  rw [nth_eq (by simpa using h), nth_eq h, List.getElem_map]
theorem jn_bound {l : List ByteArray} {mid : ByteArray} {M : Nat} (h : ∀ i, i < l.length → (nth l i).size ≤ M) : ∀ k, k ≤ l.length → (jn l mid k).size ≤ k * (M + mid.size)
  | 0, _ => by rw [jn_zero]; simp [bs_size]
  | 1, hk => by
    rw [jn_one mid (by omega)]
    have := h 0 (by omega)
    omega
  | k + 2, hk => by
    rw [jn_succ mid (by omega) (by omega), ByteArray.size_append, ByteArray.size_append]
    have h1 := jn_bound (mid := mid) h (k + 1) (by omega)
    have h2 := h (k + 1) (by omega)
    rw [Nat.succ_mul (k + 1)]
    omega
theorem joinB_bound {l : List ByteArray} {mid : ByteArray} {M : Nat} (h : ∀ i, i < l.length → (nth l i).size ≤ M) : (joinB l mid).size ≤ l.length * (M + mid.size) := by
  have := jn_bound (mid := mid) h l.length (Nat.le_refl _)
  rw [jn_all] at this
  exact this
theorem quoJ_size {l : List ByteArray} (h : vCells l = true) : (joinB (l.map quoB) comma).size ≤ 175 := by
  have h1 := (vCells_parts h).2.1
  have h2 := joinB_bound (l := l.map quoB) (mid := comma) (M := 34) (fun i hi => by
    rw [List.length_map] at hi
    rw [nth_mapQ hi]
    have a := quoB_size (nth l i)
    have b := vCells_size h i hi
    omega)
  rw [List.length_map] at h2
  have e : comma.size = 1 := rfl
  rw [e] at h2
  have : l.length * (34 + 1) ≤ 5 * 35 := Nat.mul_le_mul h1 (Nat.le_refl _)
  omega
theorem vRows_one (l : List ByteArray) : vRows [l] = vCells l := by
  unfold vRows
  have e : nthP [l] 0 = l := rfl
  rw [e]
  simp [rowOK]
end Go.Proofs.Ytadlelcckalcoaa.pl

