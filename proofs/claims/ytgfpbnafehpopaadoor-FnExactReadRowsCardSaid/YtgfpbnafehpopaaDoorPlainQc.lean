/- Plain: a cell as it stands between commas. -/
import Derived.Test.YtgfpbnafehpopaaDoorPlainRp
import Derived.Test.YtgfpbnafehpopaaDoorPlainT
import Derived.Test.YtgfpbnafehpopaaDoorPlainTb
import Derived.Test.YtgfpbnafehpopaaDoorPlainJ
import Derived.Lib.IndexAny
namespace Go.Proofs.YtgfpbnafehpopaaDoor.pl
set_option maxRecDepth 100000

def qsB (c : UInt8) : Bool := c == 44 || c == 34 || c == 32
def mustQ (l : List UInt8) : Bool := l.isEmpty || l.any qsB
def dblC (c : UInt8) : List UInt8 := if c = 34 then [34, 34] else [c]
def dblQ (l : List UInt8) : List UInt8 := l.flatMap dblC
def quoL (l : List UInt8) : List UInt8 := if mustQ l = true then 34 :: (dblQ l ++ [34]) else l
def quoB (s : ByteArray) : ByteArray := bs (quoL s.data.toList)

theorem dblQ_nil : dblQ [] = [] := rfl
theorem dblQ_cons (c : UInt8) (r : List UInt8) : dblQ (c :: r) = dblC c ++ dblQ r := rfl
theorem dblQ_append (a b : List UInt8) : dblQ (a ++ b) = dblQ a ++ dblQ b := List.flatMap_append
theorem dblC_quote {c : UInt8} (h : c = 34) : dblC c = [34, 34] := by simp [dblC, h]
theorem dblC_else {c : UInt8} (h : c ≠ 34) : dblC c = [c] := by simp [dblC, h]
theorem dblC_len (c : UInt8) : (dblC c).length ≤ 2 := by unfold dblC; split <;> simp
theorem dblQ_len : ∀ l : List UInt8, (dblQ l).length ≤ 2 * l.length
  | [] => by simp [dblQ]
  | c :: r => by
    rw [dblQ_cons, List.length_append, List.length_cons]
    have := dblC_len c
    have := dblQ_len r
    omega
theorem raG_dbl : ∀ l : List UInt8, raG [34] [34, 34] 0 l = dblQ l
  | [] => rfl
  | c :: r => by
    rw [dblQ_cons]
    by_cases h : c = 34
    · subst h
      rw [raG_hit (by simp) (by simp [List.isPrefixOf]), dblC_quote rfl]
      show [34, 34] ++ raG [34] [34, 34] 0 r = _
      rw [raG_dbl r]
    · rw [raG_miss (by simp [List.isPrefixOf]; exact fun e => h e.symm), dblC_else h, raG_dbl r]; rfl
theorem replaceAll_dbl (l : List UInt8) : Lib.replaceAll l [34] [34, 34] = dblQ l := by
  rw [replaceAll_raG (by simp) (by simp), raG_dbl]
theorem indexAny_qs : ∀ l : List UInt8, (0 ≤ Lib.indexAny l [44, 34, 32]) ↔ l.any qsB = true
  | [] => by simp [Lib.indexAny]
  | c :: r => by
    have ih := indexAny_qs r
    have ge := Lib.indexAny_ge [44, 34, 32] r
    have e : ([44, 34, 32] : List UInt8).contains c = qsB c := by
      unfold qsB
      simp only [List.contains_cons, List.contains_nil, Bool.or_false, Bool.or_assoc]
    unfold Lib.indexAny
    rw [e, List.any_cons]
    by_cases hq : qsB c = true
    · simp [hq]
    · have hq' : qsB c = false := by simpa using hq
      rw [hq', Bool.false_or, ← ih]
      by_cases h1 : Lib.indexAny r [44, 34, 32] = -1
      · simp [h1]
      · have h2 : (Lib.indexAny r [44, 34, 32] == -1) = false := by simpa using h1
        rw [h2]; simp; omega
theorem containsAny_qs (l : List UInt8) : Lib.containsAny l [44, 34, 32] = l.any qsB := by
  unfold Lib.containsAny
  have := indexAny_qs l
  by_cases h : l.any qsB = true
  · rw [h]; exact decide_eq_true (this.2 h)
  · have h' : l.any qsB = false := by simpa using h
    rw [h']; exact decide_eq_false (fun e => h (this.1 e))
theorem dblQ_same : ∀ {l : List UInt8}, l.any qsB = false → dblQ l = l
  | [], _ => rfl
  | c :: r, h => by
    rw [List.any_cons, Bool.or_eq_false_iff] at h
    have hc : c ≠ 34 := by rintro rfl; exact absurd h.1 (by decide)
    rw [dblQ_cons, dblC_else hc, dblQ_same h.2]; rfl
theorem mustQ_parts {l : List UInt8} (h : mustQ l = false) : l ≠ [] ∧ l.any qsB = false := by
  unfold mustQ at h
  rw [Bool.or_eq_false_iff] at h
  exact ⟨by intro e; rw [e] at h; exact absurd h.1 (by decide), h.2⟩
theorem quoL_must {l : List UInt8} (h : mustQ l = true) : quoL l = 34 :: (dblQ l ++ [34]) := by simp [quoL, h]
theorem quoL_not {l : List UInt8} (h : mustQ l = false) : quoL l = l := by simp [quoL, h]
theorem quoL_not' {l : List UInt8} (h : mustQ l = false) : quoL l = dblQ l := by rw [quoL_not h, dblQ_same (mustQ_parts h).2]
theorem quoL_len (l : List UInt8) : (quoL l).length ≤ 2 * l.length + 2 := by
  unfold quoL
  have := dblQ_len l
  split
  · simp; omega
  · omega
theorem quoB_size (s : ByteArray) : (quoB s).size ≤ 2 * s.size + 2 := by
  have := quoL_len s.data.toList
  rw [len_eq] at this
  exact this
theorem bs_one' (o : List UInt8) (c : UInt8) : bs o ++ bs [c] = bs (o ++ [c]) := ByteArray.mk_append_mk _ _
theorem bs_app (a b : List UInt8) : bs a ++ bs b = bs (a ++ b) := ByteArray.mk_append_mk _ _
theorem quoB_must {s : ByteArray} (h : mustQ s.data.toList = true) : (⟨#[34]⟩ ++ bs (dblQ s.data.toList)) ++ ⟨#[34]⟩ = quoB s := by
  unfold quoB
  rw [quoL_must h]
  show (bs [34] ++ bs (dblQ s.data.toList)) ++ bs [34] = _
  rw [bs_app, bs_app]; rfl
theorem quoB_not {s : ByteArray} (h : mustQ s.data.toList = false) : s = quoB s := by
  unfold quoB; rw [quoL_not h]; rfl
theorem quoB_not' {s : ByteArray} (h : mustQ s.data.toList = false) : bs (dblQ s.data.toList) = quoB s := by
  unfold quoB; rw [quoL_not' h]

/-- the model's loop -/
def mustTo (s : ByteArray) (k : Nat) : Bool := s.data.toList.isEmpty || (s.data.toList.take k).any qsB
def dblTo (s : ByteArray) (k : Nat) : List UInt8 := dblQ (s.data.toList.take k)
theorem mustTo_zero (s : ByteArray) : mustTo s 0 = s.data.toList.isEmpty := by simp [mustTo]
theorem mustTo_all (s : ByteArray) : mustTo s s.size = mustQ s.data.toList := by
  unfold mustTo mustQ; rw [List.take_of_length_le (by rw [len_eq]; exact Nat.le_refl _)]
theorem dblTo_all (s : ByteArray) : dblTo s s.size = dblQ s.data.toList := by
  unfold dblTo; rw [List.take_of_length_le (by rw [len_eq]; exact Nat.le_refl _)]
theorem mustTo_succ {s : ByteArray} {k : Nat} (h : k < s.size) : mustTo s (k + 1) = (mustTo s k || qsB s[k]) := by
  unfold mustTo; rw [take_snoc h, List.any_append]; simp [Bool.or_assoc]
theorem dblTo_succ {s : ByteArray} {k : Nat} (h : k < s.size) : dblTo s (k + 1) = dblTo s k ++ dblC s[k] := by
  unfold dblTo; rw [take_snoc h, dblQ_append]; simp [dblQ]
theorem dblTo_len {s : ByteArray} {k : Nat} (h : k ≤ s.size) : (dblTo s k).length ≤ 2 * s.size := by
  have := dblQ_len (s.data.toList.take k)
  have h2 : (s.data.toList.take k).length ≤ s.size := by rw [List.length_take, len_eq]; omega
  unfold dblTo; omega
theorem dblB_size {s : ByteArray} (h : s.size ≤ 1000) : (bs (dblQ s.data.toList)).size ≤ 2000 := by
  have := dblQ_len s.data.toList
  rw [len_eq] at this
  show (dblQ s.data.toList).length ≤ _
  omega
theorem dblB_size1 {s : ByteArray} (h : s.size ≤ 1000) : (⟨#[34]⟩ ++ bs (dblQ s.data.toList)).size ≤ 2001 := by
  have := dblB_size h
  rw [ByteArray.size_append]
  show 1 + _ ≤ _
  omega
theorem byte_neN {c n : UInt8} (h : c ≠ n) {m : Int} (hm : m = n.toNat) : ¬ (c.toNat : Int) = m := by
  intro e
  exact h (UInt8.toNat_inj.1 (by omega))
theorem qsB_no {c : UInt8} (h1 : c ≠ 44) (h2 : c ≠ 34) (h3 : c ≠ 32) : qsB c = false := by simp [qsB, h1, h2, h3]

def comma : ByteArray := ⟨#[44]⟩
/-- QuoteCells -/
def quoR (l : List ByteArray) : ByteArray := if vCells l = true then joinB (l.map quoB) comma else bs []
theorem quoR_no {l : List ByteArray} (h : vCells l = false) : quoR l = bs [] := by simp [quoR, h]
theorem quoR_yes {l : List ByteArray} (h : vCells l = true) : quoR l = joinB (l.map quoB) comma := by simp [quoR, h]
def qTo (l : List ByteArray) (k : Nat) : List ByteArray := (l.take k).map quoB
theorem qTo_zero (l : List ByteArray) : qTo l 0 = [] := rfl
theorem qTo_succ {l : List ByteArray} {k : Nat} {x : ByteArray} (h : k < l.length) (hx : quoB (nth l k) = x) : qTo l k ++ [x] = qTo l (k + 1) := by
  unfold qTo
  rw [List.take_succ_eq_append_getElem h, List.map_append, ← hx, nth_eq h]; rfl
theorem qTo_all (l : List ByteArray) : qTo l l.length = l.map quoB := by simp [qTo]
theorem qTo_len {l : List ByteArray} {k : Nat} (h : k ≤ l.length) : (qTo l k).length = k := by simp [qTo]; omega
theorem nth_mapQ {l : List ByteArray} {i : Nat} (h : i < l.length) : nth (l.map quoB) i = quoB (nth l i) := by
  rw [nth_eq (by simpa using h), nth_eq h, List.getElem_map]
theorem jn_bound {l : List ByteArray} {mid : ByteArray} {M : Nat} (h : ∀ i, i < l.length → (nth l i).size ≤ M) : ∀ k, k ≤ l.length → (jn l mid k).size ≤ k * (M + mid.size)
  | 0, _ => by rw [jn_zero]; simp [bs_size]
  | 1, hk => by
    rw [jn_one mid (by omega)]
    have := h 0 (by omega)
    omega
  | k + 2, hk => by
    rw [jn_succ mid (by omega) (by omega), ByteArray.size_append, ByteArray.size_append]
    have h1 := jn_bound (mid := mid) h (k + 1) (by omega)
    have h2 := h (k + 1) (by omega)
    rw [Nat.succ_mul (k + 1)]
    omega
theorem joinB_bound {l : List ByteArray} {mid : ByteArray} {M : Nat} (h : ∀ i, i < l.length → (nth l i).size ≤ M) : (joinB l mid).size ≤ l.length * (M + mid.size) := by
  have := jn_bound (mid := mid) h l.length (Nat.le_refl _)
  rw [jn_all] at this
  exact this
theorem quoJ_size {l : List ByteArray} (h : vCells l = true) : (joinB (l.map quoB) comma).size ≤ 175 := by
  have h1 := (vCells_parts h).2.1
  have h2 := joinB_bound (l := l.map quoB) (mid := comma) (M := 34) (fun i hi => by
    rw [List.length_map] at hi
    rw [nth_mapQ hi]
    have a := quoB_size (nth l i)
    have b := vCells_size h i hi
    omega)
  rw [List.length_map] at h2
  have e : comma.size = 1 := rfl
  rw [e] at h2
  have : l.length * (34 + 1) ≤ 5 * 35 := Nat.mul_le_mul h1 (Nat.le_refl _)
  omega
theorem vRows_one (l : List ByteArray) : vRows [l] = vCells l := by
  unfold vRows
  have e : nthP [l] 0 = l := rfl
  rw [e]
  simp [rowOK]
end Go.Proofs.YtgfpbnafehpopaaDoor.pl
