/- Joined texts: Plain PlainW PlainT PlainR PlainP. -/
import Derived.WalkKit
import Derived.Lib.Strings
import Derived.Lib.Repeat
/- Plain mathematics on lists of bytes: the functions that the package and its model compute, without any program. -/
namespace Go.Proofs.Ytadlelcckalcoaa.pl

def plainB (c : UInt8) : Bool := decide (32 ≤ c.toNat) && decide (c.toNat ≤ 126)
def validT (l : List UInt8) : Bool := l.all plainB && decide (l.length ≤ 120)
def inR (n lo hi : Int) : Bool := decide (lo ≤ n) && decide (n ≤ hi)

theorem inR_true {n lo hi : Int} (h1 : lo ≤ n) (h2 : n ≤ hi) : inR n lo hi = true := by simp [inR, h1, h2]
theorem inR_false {n lo hi : Int} (h : n < lo ∨ hi < n) : inR n lo hi = false := by
  unfold inR; rcases h with h | h
  · rw [decide_eq_false (by omega)]; rfl
  · rw [decide_eq_false (p := n ≤ hi) (by omega)]; simp
theorem inR_byte (c : UInt8) : inR (c.toNat : Int) 32 126 = plainB c := by
  unfold inR plainB
  congr 1 <;> (apply decide_eq_decide.2; omega)

theorem len_eq (s : ByteArray) : s.data.toList.length = s.size := by rw [Array.length_toList]; rfl

/-- all of the first k bytes are plain -/
def allTo (s : ByteArray) (k : Nat) : Prop := ∀ i (h : i < s.size), i < k → plainB s[i] = true
theorem allTo_zero (s : ByteArray) : allTo s 0 := fun _ _ h => absurd h (by omega)
theorem allTo_succ {s : ByteArray} {k : Nat} (h : allTo s k) (hk : k < s.size) (hc : plainB s[k] = true) : allTo s (k + 1) := by
  intro i hi hlt
  by_cases e : i = k
  · subst e; exact hc
  · exact h i hi (by omega)
theorem validT_all {s : ByteArray} (h : allTo s s.size) : validT s.data.toList = decide (s.size ≤ 120) := by
  unfold validT
  have : s.data.toList.all plainB = true := by
    rw [List.all_eq_true]
    intro c hc
    obtain ⟨i, hi, rfl⟩ := List.getElem_of_mem hc
    exact h i (by simpa using hi) (by simpa using hi)
  rw [this, len_eq]; rfl
theorem validT_bad {s : ByteArray} {k : Nat} (hk : k < s.size) (hc : plainB s[k] = false) : validT s.data.toList = false := by
  unfold validT
  have : s.data.toList.all plainB = false := by
    rw [List.all_eq_false]
    exact ⟨s[k], by
      have : s[k] = s.data.toList[k]'(by simpa using hk) := rfl
      rw [this]; exact List.getElem_mem _, by simp [hc]⟩
  rw [this]; rfl
theorem validT_long {s : ByteArray} (hk : 120 < s.size) : validT s.data.toList = false := by
  unfold validT
  have : ¬ s.data.toList.length ≤ 120 := by rw [len_eq]; omega
  rw [decide_eq_false this]; simp
theorem validT_size {s : ByteArray} (h : validT s.data.toList = true) : s.size ≤ 120 := by
  unfold validT at h
  simp only [Bool.and_eq_true, decide_eq_true_eq] at h
  rw [len_eq] at h; exact h.2
theorem plainB_lt {c : UInt8} (h : plainB c = true) : 32 ≤ c.toNat ∧ c.toNat ≤ 126 := by
  simpa [plainB] using h
theorem decode_plain {s : ByteArray} {k : Nat} (hk : k < s.size) (hp : plainB s[k] = true) : Utf8.decode s k = ((s[k]'hk).toNat, 1) :=
  decode_ascii s k hk (by have := plainB_lt hp; omega)
theorem decode_unplain {s : ByteArray} {k : Nat} (hk : k < s.size) (hp : plainB s[k] = false) : inR ((Utf8.decode s k).1 : Int) 32 126 = false := by
  by_cases h : (s[k]'hk).toNat < 128
  · rw [decode_ascii s k hk h, ← hp]
    exact inR_byte _
  · have := (decode_high s k hk (by omega)).1
    exact inR_false (.inr (by omega))
end Go.Proofs.Ytadlelcckalcoaa.pl

/- Plain mathematics: the words of a text. -/
namespace Go.Proofs.Ytadlelcckalcoaa.pl

def bs (l : List UInt8) : ByteArray := ⟨l.toArray⟩
theorem bs_data (l : List UInt8) : (bs l).data.toList = l := rfl
theorem bs_size (l : List UInt8) : (bs l).size = l.length := rfl
theorem bs_inj {a b : List UInt8} (h : bs a = bs b) : a = b := by rw [← bs_data a, h, bs_data]
theorem ba_ext {a b : ByteArray} (h : a.data.toList = b.data.toList) : a = b := by
  obtain ⟨⟨x⟩⟩ := a; obtain ⟨⟨y⟩⟩ := b; simp at h; rw [h]
theorem bs_self (s : ByteArray) : bs s.data.toList = s := ba_ext rfl

/-- the bytes from a on, up to b -/
def seg (l : List UInt8) (a b : Nat) : List UInt8 := (l.drop a).take (b - a)
theorem ex_bs (s : ByteArray) (a b : Nat) : s.extract a b = bs (seg s.data.toList a b) := ba_ext (by rw [Lib.extract_data, bs_data]; rfl)
theorem seg_self (l : List UInt8) (a : Nat) : seg l a a = [] := by simp [seg]
theorem seg_succ {s : ByteArray} {a k : Nat} (ha : a ≤ k) (hk : k < s.size) : seg s.data.toList a (k + 1) = seg s.data.toList a k ++ [s[k]] := by
  unfold seg
  have hk' : k < s.data.toList.length := by rw [len_eq]; exact hk
  rw [show k + 1 - a = (k - a) + 1 from by omega, List.take_succ_eq_append_getElem (by rw [List.length_drop]; omega)]
  congr 1
  rw [List.getElem_drop]
  congr 1
  have : a + (k - a) = k := by omega
  simp only [this]
  rfl
theorem drop_cons {s : ByteArray} {k : Nat} (hk : k < s.size) : s.data.toList.drop k = s[k] :: s.data.toList.drop (k + 1) := by
  rw [List.drop_eq_getElem_cons (by rw [len_eq]; exact hk)]; rfl
theorem drop_all (s : ByteArray) : s.data.toList.drop s.size = [] := List.drop_of_length_le (by rw [len_eq]; exact Nat.le_refl _)
theorem seg_ne {s : ByteArray} {a k : Nat} (ha : a < k) (hk : k ≤ s.size) : seg s.data.toList a k ≠ [] := by
  intro h
  have := congrArg List.length h
  simp only [seg, List.length_take, List.length_drop, len_eq, List.length_nil] at this
  omega
theorem seg_len {s : ByteArray} {a k : Nat} (hk : k ≤ s.size) : (seg s.data.toList a k).length = k - a := by
  simp only [seg, List.length_take, List.length_drop, len_eq]; omega

/-- the words, one byte after the other; cur: the word that is being read -/
def spl (cur : List UInt8) : List UInt8 → List (List UInt8)
  | [] => if cur = [] then [] else [cur]
  | c :: r => if c = 32 then (if cur = [] then spl [] r else cur :: spl [] r) else spl (cur ++ [c]) r
def wordsL (l : List UInt8) : List (List UInt8) := spl [] l
def wordsB (s : ByteArray) : List ByteArray := (wordsL s.data.toList).map bs

theorem spl_len (l : List UInt8) : ∀ cur, (spl cur l).length ≤ l.length + (if cur = [] then 0 else 1) := by
  induction l with
  | nil => intro cur; unfold spl; split <;> simp
  | cons c r ih =>
    intro cur
    unfold spl
    by_cases h : c = 32
    · rw [if_pos h]
      have := ih []
      simp only [if_true] at this
      split <;> simp only [List.length_cons] <;> omega
    · rw [if_neg h]
      have := ih (cur ++ [c])
      simp only [List.append_eq_nil_iff, List.cons_ne_nil, and_false, if_false] at this
      simp only [List.length_cons]
      omega
theorem wordsL_len (l : List UInt8) : (wordsL l).length ≤ l.length := by
  have := spl_len l []; simpa [wordsL] using this

/-- what holds behind k bytes: the words so far, and where the word begins that is being read, -1 for none -/
def WInv (s : ByteArray) (done : List (List UInt8)) (f : Int) (k : Nat) : Prop :=
  done.length ≤ k ∧ ((f = -1 ∧ done ++ spl [] (s.data.toList.drop k) = wordsL s.data.toList) ∨
  (∃ j : Nat, f = j ∧ j < k ∧ done ++ spl (seg s.data.toList j k) (s.data.toList.drop k) = wordsL s.data.toList))
theorem winv_start (s : ByteArray) : WInv s [] (-1) 0 := ⟨Nat.le_refl _, .inl ⟨rfl, rfl⟩⟩
theorem winv_begin {s : ByteArray} {done : List (List UInt8)} {k : Nat} (h : WInv s done (-1) k) (hk : k < s.size) (hc : s[k] ≠ 32) : WInv s done k (k + 1) := by
  obtain ⟨hl, h⟩ := h
  refine ⟨by omega, .inr ⟨k, rfl, by omega, ?_⟩⟩
  rcases h with ⟨_, h⟩ | ⟨j, h, _⟩
  · rw [← h, drop_cons hk, seg_succ (Nat.le_refl _) hk, seg_self]
    conv => rhs; unfold spl
    rw [if_neg hc]
  · omega
theorem winv_grow {s : ByteArray} {done : List (List UInt8)} {k j : Nat} (h : WInv s done j k) (hk : k < s.size) (hc : s[k] ≠ 32) : WInv s done j (k + 1) := by
  obtain ⟨hl, h⟩ := h
  refine ⟨by omega, .inr ⟨j, rfl, ?_⟩⟩
  rcases h with ⟨h, _⟩ | ⟨j', h, hj, h2⟩
  · omega
  · obtain rfl : j = j' := by omega
    refine ⟨by omega, ?_⟩
    rw [← h2, drop_cons hk, seg_succ (by omega) hk]
    conv => rhs; unfold spl
    rw [if_neg hc]
theorem winv_skip {s : ByteArray} {done : List (List UInt8)} {k : Nat} (h : WInv s done (-1) k) (hk : k < s.size) (hc : s[k] = 32) : WInv s done (-1) (k + 1) := by
  obtain ⟨hl, h⟩ := h
  refine ⟨by omega, .inl ⟨rfl, ?_⟩⟩
  rcases h with ⟨_, h⟩ | ⟨j, h, _⟩
  · rw [← h, drop_cons hk]
    conv => rhs; unfold spl
    rw [if_pos hc, if_pos rfl]
  · omega
theorem winv_end {s : ByteArray} {done : List (List UInt8)} {k j : Nat} (h : WInv s done j k) (hk : k < s.size) (hc : s[k] = 32) : j < k ∧ WInv s (done ++ [seg s.data.toList j k]) (-1) (k + 1) := by
  obtain ⟨hl, h⟩ := h
  rcases h with ⟨h, _⟩ | ⟨j', h, hj, h2⟩
  · omega
  · obtain rfl : j = j' := by omega
    refine ⟨hj, by simp; omega, .inl ⟨rfl, ?_⟩⟩
    rw [← h2, drop_cons hk]
    conv => rhs; unfold spl
    rw [if_pos hc, if_neg (seg_ne hj (by omega)), List.append_assoc]
    rfl
theorem winv_from {s : ByteArray} {done : List (List UInt8)} {f : Int} {k : Nat} (h : WInv s done f k) : f = -1 ∨ ∃ j : Nat, f = j ∧ j < k := by
  rcases h.2 with h | ⟨j, h, hj, _⟩
  · exact .inl h.1
  · exact .inr ⟨j, h, hj⟩
theorem winv_done {s : ByteArray} {done : List (List UInt8)} (h : WInv s done (-1) s.size) : done = wordsL s.data.toList := by
  rcases h.2 with ⟨_, h⟩ | ⟨j, h, _⟩
  · rw [← h, drop_all]; simp [spl]
  · omega
theorem winv_last {s : ByteArray} {done : List (List UInt8)} {j : Nat} (h : WInv s done j s.size) : done ++ [seg s.data.toList j s.size] = wordsL s.data.toList := by
  rcases h.2 with ⟨h, _⟩ | ⟨j', h, hj, h2⟩
  · omega
  · obtain rfl : j = j' := by omega
    rw [← h2, drop_all]
    conv => rhs; unfold spl
    rw [if_neg (seg_ne hj (Nat.le_refl _))]

/-- the other way: the word that is being read may have no bytes yet -/
def VInv (s : ByteArray) (done : List (List UInt8)) (j k : Nat) : Prop :=
  done.length ≤ k ∧ j ≤ k ∧ done ++ spl (seg s.data.toList j k) (s.data.toList.drop k) = wordsL s.data.toList
theorem vinv_start (s : ByteArray) : VInv s [] 0 0 := ⟨Nat.le_refl _, Nat.le_refl _, by simp [seg, wordsL]⟩
theorem vinv_grow {s : ByteArray} {done : List (List UInt8)} {k j : Nat} (h : VInv s done j k) (hk : k < s.size) (hc : s[k] ≠ 32) : VInv s done j (k + 1) := by
  obtain ⟨hl, hj, h⟩ := h
  refine ⟨by omega, by omega, ?_⟩
  rw [← h, drop_cons hk, seg_succ hj hk]
  conv => rhs; unfold spl
  rw [if_neg hc]
/-- a word is put behind the others, unless it has no bytes -/
def addW (done : List (List UInt8)) (x : List UInt8) : List (List UInt8) := if x = [] then done else done ++ [x]
theorem addW_nil (done : List (List UInt8)) {x : List UInt8} (h : x = []) : addW done x = done := by simp [addW, h]
theorem addW_cons (done : List (List UInt8)) {x : List UInt8} (h : x ≠ []) : addW done x = done ++ [x] := by simp [addW, h]
theorem vinv_end {s : ByteArray} {done : List (List UInt8)} {k j : Nat} (h : VInv s done j k) (hk : k < s.size) (hc : s[k] = 32) : VInv s (addW done (seg s.data.toList j k)) (k + 1) (k + 1) := by
  obtain ⟨hl, hj, h⟩ := h
  refine ⟨?_, Nat.le_refl _, ?_⟩
  · unfold addW; split
    · omega
    · simp; omega
  · rw [← h, drop_cons hk, seg_self]
    conv => rhs; unfold spl
    rw [if_pos hc]
    unfold addW
    split
    · rfl
    · rw [List.append_assoc]; rfl
theorem vinv_last {s : ByteArray} {done : List (List UInt8)} {j : Nat} (h : VInv s done j s.size) : addW done (seg s.data.toList j s.size) = wordsL s.data.toList := by
  obtain ⟨hl, hj, h⟩ := h
  rw [← h, drop_all]
  unfold addW spl
  split <;> simp_all
theorem byte_ne {c : UInt8} (h : c ≠ 32) : ¬ (c.toNat : Int) = 32 := by
  intro e
  have e2 : c.toNat = 32 := by omega
  exact h (UInt8.toNat_inj.1 e2)
/-- WordsOf -/
def wordsOf (s : ByteArray) : List ByteArray := if validT s.data.toList = true then wordsB s else []
theorem wordsOf_ok {s : ByteArray} (h : validT s.data.toList = true) : wordsOf s = wordsB s := by simp [wordsOf, h]
theorem wordsOf_no {s : ByteArray} (h : validT s.data.toList = false) : wordsOf s = [] := by simp [wordsOf, h]
theorem wordsB_eq {s : ByteArray} {d : List (List UInt8)} (h : d = wordsL s.data.toList) : wordsB s = d.map bs := by rw [h]; rfl
theorem validT_allTo {s : ByteArray} (h : validT s.data.toList = true) : allTo s s.size := by
  unfold validT at h
  simp only [Bool.and_eq_true, List.all_eq_true] at h
  intro i hi _
  have : s[i] = s.data.toList[i]'(by rw [len_eq]; exact hi) := rfl
  rw [this]
  exact h.1 _ (List.getElem_mem _)
theorem wordsOf_len (s : ByteArray) : (wordsOf s).length ≤ 120 := by
  by_cases hv : validT s.data.toList = true
  · rw [wordsOf_ok hv]
    unfold wordsB
    rw [List.length_map]
    have h1 := wordsL_len s.data.toList
    have h2 := validT_size hv
    rw [len_eq] at h1
    omega
  · rw [wordsOf_no (by simpa using hv)]; simp
theorem empty_of {s : ByteArray} (h : s.size = 0) : s.toList.isEmpty = true := by
  rw [Lib.toList_data, List.isEmpty_iff_length_eq_zero, len_eq]; exact h
theorem nonempty_of {s : ByteArray} (h : ¬ s.size = 0) : s.toList.isEmpty = false := by
  rw [Bool.eq_false_iff]; intro e
  rw [Lib.toList_data, List.isEmpty_iff_length_eq_zero, len_eq] at e; exact h e
end Go.Proofs.Ytadlelcckalcoaa.pl

/- Plain mathematics: tabs. -/
namespace Go.Proofs.Ytadlelcckalcoaa.pl

def spL (n : Nat) : List UInt8 := List.replicate n 32
def spB (n : Nat) : ByteArray := bs (spL n)
theorem spB_size (n : Nat) : (spB n).size = n := by simp [spB, bs_size, spL]
theorem spL_len (n : Nat) : (spL n).length = n := by simp [spL]
theorem spB_zero : spB 0 = ⟨#[]⟩ := rfl
theorem spB_succ (n : Nat) : spB n ++ ⟨#[32]⟩ = spB (n + 1) := by
  unfold spB spL
  rw [List.replicate_succ']
  exact ByteArray.mk_append_mk _ _
theorem rep_sp (n : Nat) : Lib.repeatL (ByteArray.mk #[32]).data.toList n = spL n := by
  induction n with
  | zero => rfl
  | succ n ih => unfold Lib.repeatL; rw [ih]; rfl

def tabB (c : UInt8) : Bool := decide (c = 9) || plainB c
def tabT (l : List UInt8) : Bool := l.all tabB && decide (l.length ≤ 120)
def allQ (s : ByteArray) (k : Nat) : Prop := ∀ i (h : i < s.size), i < k → tabB s[i] = true
theorem allQ_zero (s : ByteArray) : allQ s 0 := fun _ _ h => absurd h (by omega)
theorem allQ_succ {s : ByteArray} {k : Nat} (h : allQ s k) (hk : k < s.size) (hc : tabB s[k] = true) : allQ s (k + 1) := by
  intro i hi hlt
  by_cases e : i = k
  · subst e; exact hc
  · exact h i hi (by omega)
theorem tabT_all {s : ByteArray} (h : allQ s s.size) : tabT s.data.toList = decide (s.size ≤ 120) := by
  unfold tabT
  have : s.data.toList.all tabB = true := by
    rw [List.all_eq_true]
    intro c hc
    obtain ⟨i, hi, rfl⟩ := List.getElem_of_mem hc
    exact h i (by simpa using hi) (by simpa using hi)
  rw [this, len_eq]; rfl
theorem tabT_bad {s : ByteArray} {k : Nat} (hk : k < s.size) (hc : tabB s[k] = false) : tabT s.data.toList = false := by
  unfold tabT
  have : s.data.toList.all tabB = false := by
    rw [List.all_eq_false]
    exact ⟨s[k], by
      have : s[k] = s.data.toList[k]'(by simpa using hk) := rfl
      rw [this]; exact List.getElem_mem _, by simp [hc]⟩
  rw [this]; rfl
theorem tabT_long {s : ByteArray} (hk : 120 < s.size) : tabT s.data.toList = false := by
  unfold tabT
  have : ¬ s.data.toList.length ≤ 120 := by rw [len_eq]; omega
  rw [decide_eq_false this]; simp
theorem tabT_size {s : ByteArray} (h : tabT s.data.toList = true) : s.size ≤ 120 := by
  unfold tabT at h
  simp only [Bool.and_eq_true, decide_eq_true_eq] at h
  rw [len_eq] at h; exact h.2
theorem tabT_allQ {s : ByteArray} (h : tabT s.data.toList = true) : allQ s s.size := by
  unfold tabT at h
  simp only [Bool.and_eq_true, List.all_eq_true] at h
  intro i hi _
  have : s[i] = s.data.toList[i]'(by rw [len_eq]; exact hi) := rfl
  rw [this]
  exact h.1 _ (List.getElem_mem _)
theorem tabB_cases (c : UInt8) : (c = 9) ∨ (¬ (c.toNat : Int) = 9 ∧ c ≠ 9 ∧ plainB c = true ∧ tabB c = true) ∨ (¬ (c.toNat : Int) = 9 ∧ plainB c = false ∧ tabB c = false) := by
  by_cases h : c = 9
  · exact .inl h
  · right
    have h' : ¬ (c.toNat : Int) = 9 := by
      intro e
      have e2 : c.toNat = 9 := by omega
      exact h (UInt8.toNat_inj.1 e2)
    by_cases hp : plainB c = true
    · exact .inl ⟨h', h, hp, by simp [tabB, hp]⟩
    · have hp' : plainB c = false := by simpa using hp
      exact .inr ⟨h', hp', by simp [tabB, h, hp']⟩
theorem tabB_nine {c : UInt8} (h : c = 9) : tabB c = true := by simp [tabB, h]
theorem tabB_lt {c : UInt8} (h : tabB c = true) : c.toNat ≤ 127 := by
  unfold tabB at h
  simp only [Bool.or_eq_true, decide_eq_true_eq] at h
  rcases h with h | h
  · rw [h]; decide
  · have := plainB_lt h; omega
theorem decode_tabs {s : ByteArray} {k : Nat} (hk : k < s.size) (hp : tabB s[k] = true) : Utf8.decode s k = ((s[k]'hk).toNat, 1) :=
  decode_ascii s k hk (by have := tabB_lt hp; omega)
theorem decode_ne9 {s : ByteArray} {k : Nat} (hk : k < s.size) (h9 : ¬ (s[k].toNat : Int) = 9) : ¬ ((Utf8.decode s k).1 : Int) = 9 := by
  by_cases h : (s[k]'hk).toNat < 128
  · rw [decode_ascii s k hk h]; exact h9
  · have := (decode_high s k hk (by omega)).1
    omega

/-- one byte more of a text whose tabs are expanded -/
def extB (wd : Nat) (o : List UInt8) (c : UInt8) : List UInt8 := if c = 9 then o ++ spL (wd - o.length % wd) else o ++ [c]
def expL (wd : Nat) (l : List UInt8) : List UInt8 := l.foldl (extB wd) []
def expTo (wd : Nat) (s : ByteArray) (k : Nat) : List UInt8 := expL wd (s.data.toList.take k)
theorem expTo_zero (wd : Nat) (s : ByteArray) : expTo wd s 0 = [] := rfl
theorem take_snoc {s : ByteArray} {k : Nat} (h : k < s.size) : s.data.toList.take (k + 1) = s.data.toList.take k ++ [s[k]] := by
  rw [List.take_succ_eq_append_getElem (by rw [len_eq]; exact h)]; rfl
theorem expTo_succ (wd : Nat) {s : ByteArray} {k : Nat} (h : k < s.size) : expTo wd s (k + 1) = extB wd (expTo wd s k) s[k] := by
  unfold expTo expL
  rw [take_snoc h, List.foldl_append]; rfl
theorem expTo_all (wd : Nat) (s : ByteArray) : expTo wd s s.size = expL wd s.data.toList := by
  unfold expTo
  rw [List.take_of_length_le (by rw [len_eq]; exact Nat.le_refl _)]
theorem extB_len {wd : Nat} (h1 : 1 ≤ wd) (h2 : wd ≤ 12) (o : List UInt8) (c : UInt8) : (extB wd o c).length ≤ o.length + 12 := by
  unfold extB
  split
  · rw [List.length_append, spL_len]; omega
  · simp
theorem expTo_len {wd : Nat} (h1 : 1 ≤ wd) (h2 : wd ≤ 12) (s : ByteArray) : ∀ k, k ≤ s.size → (expTo wd s k).length ≤ 12 * k
  | 0, _ => by rw [expTo_zero]; simp
  | k + 1, h => by
    rw [expTo_succ wd (by omega)]
    have := extB_len h1 h2 (expTo wd s k) s[k]
    have := expTo_len h1 h2 s k (by omega)
    omega
theorem extB_nine (wd : Nat) {o : List UInt8} {c : UInt8} (h : c = 9) : extB wd o c = o ++ spL (wd - o.length % wd) := by simp [extB, h]
theorem extB_else (wd : Nat) {o : List UInt8} {c : UInt8} (h : c ≠ 9) : extB wd o c = o ++ [c] := by simp [extB, h]
theorem wd_sub {wd : Nat} (n : Nat) (h : 1 ≤ wd) : (wd : Int) - (n : Int) % (wd : Int) = ((wd - n % wd : Nat) : Int) := by
  have h1 := Nat.mod_lt n (show 0 < wd by omega)
  rw [Int.natCast_sub (Nat.le_of_lt h1), Int.natCast_emod]
theorem mod_bd {wd : Nat} (n : Nat) (h : 1 ≤ wd) : 0 ≤ (n : Int) % (wd : Int) ∧ (n : Int) % (wd : Int) < wd :=
  ⟨Int.emod_nonneg _ (by omega), Int.emod_lt_of_pos _ (by omega)⟩

theorem bs_spB (o : List UInt8) (n : Nat) : bs o ++ spB n = bs (o ++ spL n) := ByteArray.mk_append_mk _ _
theorem bs_one (o : List UInt8) {s : ByteArray} {k : Nat} (hk : k < s.size) : bs o ++ s.extract k (k + 1) = bs (o ++ [s[k]]) := by
  rw [ex_bs, seg_succ (Nat.le_refl _) hk, seg_self]; exact ByteArray.mk_append_mk _ _
theorem byte_ne9 {c : UInt8} (h : c ≠ 9) : ¬ (c.toNat : Int) = 9 := by
  intro e
  have e2 : c.toNat = 9 := by omega
  exact h (UInt8.toNat_inj.1 e2)
/-- ExpandTabs -/
def expB (s : ByteArray) (wd : Int) : ByteArray := if tabT s.data.toList = true ∧ 1 ≤ wd ∧ wd ≤ 12 then bs (expL wd.toNat s.data.toList) else bs []
theorem expB_ok {s : ByteArray} {wd : Nat} (h : tabT s.data.toList = true) (h1 : 1 ≤ wd) (h2 : wd ≤ 12) : expB s wd = bs (expL wd s.data.toList) := by
  unfold expB; rw [if_pos ⟨h, by omega, by omega⟩, Int.toNat_natCast]
theorem expB_no {s : ByteArray} {wd : Int} (h : tabT s.data.toList = false ∨ wd < 1 ∨ 12 < wd) : expB s wd = bs [] := by
  unfold expB; rw [if_neg]; rintro ⟨h1, h2, h3⟩
  rcases h with h | h | h
  · rw [h] at h1; cases h1
  · omega
  · omega
end Go.Proofs.Ytadlelcckalcoaa.pl

/- Plain mathematics: spaces taken off at the ends; tabs put back. -/
namespace Go.Proofs.Ytadlelcckalcoaa.pl

/-- how many of the first n bytes are left without the spaces at their end -/
def rcut (l : List UInt8) : Nat → Nat
  | 0 => 0
  | n + 1 => if l[n]? = some 32 then rcut l n else n + 1
theorem rcut_le (l : List UInt8) : ∀ n, rcut l n ≤ n
  | 0 => Nat.le_refl _
  | n + 1 => by
    unfold rcut; split
    · have := rcut_le l n; omega
    · exact Nat.le_refl _
def rtrim (l : List UInt8) : List UInt8 := l.take (rcut l l.length)
theorem rcut_sp {l : List UInt8} {n : Nat} (h : l[n]? = some 32) : rcut l (n + 1) = rcut l n := by
  conv => lhs; unfold rcut
  rw [if_pos h]
theorem rcut_no {l : List UInt8} {n : Nat} (h : ¬ l[n]? = some 32) : rcut l (n + 1) = n + 1 := by
  conv => lhs; unfold rcut
  rw [if_neg h]
theorem get_some {s : ByteArray} {k : Nat} (h : k < s.size) : s.data.toList[k]? = some s[k] := by
  rw [List.getElem?_eq_getElem (by rw [len_eq]; exact h)]; rfl
theorem take_bs_get {s : ByteArray} {k i : Nat} (hk : k ≤ s.size) (hi : i < k) (h : i < (bs (s.data.toList.take k)).size) : (bs (s.data.toList.take k))[i] = s[i] := by
  have e : (bs (s.data.toList.take k)).data.toList = s.data.toList.take k := rfl
  have h1 : (bs (s.data.toList.take k)).data.toList[i]? = some (bs (s.data.toList.take k))[i] := get_some h
  rw [e, List.getElem?_take, if_pos hi, get_some (by omega)] at h1
  exact (Option.some.inj h1).symm
theorem get_cast {a b : ByteArray} (h : a = b) {i : Nat} (hi : i < a.size) : a[i] = b[i]'(by rw [← h]; exact hi) := by subst h; rfl
theorem take_size {s : ByteArray} {k : Nat} (hk : k ≤ s.size) : (bs (s.data.toList.take k)).size = k := by
  rw [bs_size, List.length_take, len_eq]; omega
theorem take_take {s : ByteArray} {k : Nat} : (bs (s.data.toList.take (k + 1))).extract 0 k = bs (s.data.toList.take k) := by
  apply ba_ext
  rw [Lib.extract_data, bs_data, bs_data, List.drop_zero, Nat.sub_zero, List.take_take]
  congr 1; omega
theorem take_full (s : ByteArray) : bs (s.data.toList.take s.size) = s := by
  rw [List.take_of_length_le (by rw [len_eq]; exact Nat.le_refl _)]; exact bs_self s
theorem rtrim_eq {s : ByteArray} {k : Nat} (h : rcut s.data.toList s.size = k) : bs (rtrim s.data.toList) = bs (s.data.toList.take k) := by
  unfold rtrim; rw [len_eq, h]

theorem rtrim_zero {s : ByteArray} (h : s.size = 0) : bs (rtrim s.data.toList) = s := by
  rw [rtrim_eq (k := 0) (by rw [h]; rfl)]
  rw [← h]; exact take_full s
/-- how many spaces stand ahead -/
def leadL : List UInt8 → Nat
  | [] => 0
  | c :: r => if c = 32 then leadL r + 1 else 0
theorem leadL_le : ∀ l, leadL l ≤ l.length
  | [] => Nat.le_refl _
  | c :: r => by
    unfold leadL; split
    · have := leadL_le r; simp; omega
    · simp

/-- a block as wide as a tab -/
def tb (b : List UInt8) : List UInt8 := if b.length - (rtrim b).length < 2 then b else rtrim b ++ [9]
def tabF (wd : Nat) : Nat → List UInt8 → List UInt8
  | 0, l => l
  | f + 1, l => if l.length < wd then l else tb (l.take wd) ++ tabF wd f (l.drop wd)
theorem tabF_short {wd f : Nat} {l : List UInt8} (h : l.length < wd) : tabF wd f l = l := by
  cases f with
  | zero => rfl
  | succ f => unfold tabF; rw [if_pos h]
theorem tabF_step {wd f : Nat} {l : List UInt8} (h : ¬ l.length < wd) : tabF wd (f + 1) l = tb (l.take wd) ++ tabF wd f (l.drop wd) := by
  conv => lhs; unfold tabF
  rw [if_neg h]
def tabL (wd : Nat) (l : List UInt8) : List UInt8 := tabF wd 120 l
theorem rtrim_len (b : List UInt8) : (rtrim b).length ≤ b.length := by unfold rtrim; rw [List.length_take]; omega
theorem tb_len (b : List UInt8) : (tb b).length ≤ b.length := by
  unfold tb; split
  · exact Nat.le_refl _
  · have := rtrim_len b; simp; omega
/-- TabText -/
def tabB' (s : ByteArray) (wd : Int) : ByteArray := if validT s.data.toList = true ∧ 2 ≤ wd ∧ wd ≤ 12 then bs (tabL wd.toNat s.data.toList) else bs []
theorem tabX_ok {s : ByteArray} {wd : Nat} (h : validT s.data.toList = true) (h1 : 2 ≤ wd) (h2 : wd ≤ 12) : tabB' s wd = bs (tabL wd s.data.toList) := by
  unfold tabB'; rw [if_pos ⟨h, by omega, by omega⟩, Int.toNat_natCast]
theorem tabX_no {s : ByteArray} {wd : Int} (h : validT s.data.toList = false ∨ wd < 2 ∨ 12 < wd) : tabB' s wd = bs [] := by
  unfold tabB'; rw [if_neg]; rintro ⟨h1, h2, h3⟩
  rcases h with h | h | h
  · rw [h] at h1; cases h1
  · omega
  · omega
end Go.Proofs.Ytadlelcckalcoaa.pl

/- Plain mathematics: padded texts. -/
namespace Go.Proofs.Ytadlelcckalcoaa.pl

def hLeft : List UInt8 := [108, 101, 102, 116]
def hRight : List UInt8 := [114, 105, 103, 104, 116]
def hMid : List UInt8 := [109, 105, 100, 100, 108, 101]
/-- PadText of a text of at most the limits, n bytes missing -/
def padN (s : ByteArray) (n : Nat) (how : List UInt8) : ByteArray :=
  if how = hLeft then s ++ spB n else if how = hRight then spB n ++ s else spB (n / 2) ++ s ++ spB (n - n / 2)
def padB (s : ByteArray) (a : Int) (how : ByteArray) : ByteArray :=
  if validT s.data.toList = true ∧ 0 ≤ a ∧ a ≤ 120 ∧ (how.data.toList = hLeft ∨ how.data.toList = hRight ∨ how.data.toList = hMid) then padN s (a.toNat - s.size) how.data.toList else bs []
/-- the tests on a side's name, as the walk asks them -/
structure How (h : ByteArray) (l r m : Bool) : Prop where
  l : (h.toList == [108, 101, 102, 116]) = l
  r : (h.toList == [114, 105, 103, 104, 116]) = r
  m : (h.toList == [109, 105, 100, 100, 108, 101]) = m
theorem how_cases (h : ByteArray) : (h.data.toList = hLeft ∧ How h true false false) ∨ (h.data.toList = hRight ∧ How h false true false) ∨ (h.data.toList = hMid ∧ How h false false true) ∨ ((¬ h.data.toList = hLeft ∧ ¬ h.data.toList = hRight ∧ ¬ h.data.toList = hMid) ∧ How h false false false) := by
  have e : h.toList = h.data.toList := Lib.toList_data h
  by_cases h1 : h.data.toList = hLeft
  · exact .inl ⟨h1, by rw [e, h1]; rfl, by rw [e, h1]; rfl, by rw [e, h1]; rfl⟩
  · by_cases h2 : h.data.toList = hRight
    · exact .inr (.inl ⟨h2, by rw [e, h2]; rfl, by rw [e, h2]; rfl, by rw [e, h2]; rfl⟩)
    · by_cases h3 : h.data.toList = hMid
      · exact .inr (.inr (.inl ⟨h3, by rw [e, h3]; rfl, by rw [e, h3]; rfl, by rw [e, h3]; rfl⟩))
      · exact .inr (.inr (.inr ⟨⟨h1, h2, h3⟩, by rw [e]; exact beq_eq_false_iff_ne.2 h1, by rw [e]; exact beq_eq_false_iff_ne.2 h2, by rw [e]; exact beq_eq_false_iff_ne.2 h3⟩))
theorem padB_no {s : ByteArray} {a : Int} {h : ByteArray} (hn : validT s.data.toList = false ∨ a < 0 ∨ 120 < a ∨ (¬ h.data.toList = hLeft ∧ ¬ h.data.toList = hRight ∧ ¬ h.data.toList = hMid)) : padB s a h = bs [] := by
  unfold padB; rw [if_neg]; rintro ⟨h1, h2, h3, h4⟩
  rcases hn with hn | hn | hn | hn
  · rw [hn] at h1; cases h1
  · omega
  · omega
  · rcases h4 with h4 | h4 | h4
    · exact hn.1 h4
    · exact hn.2.1 h4
    · exact hn.2.2 h4
theorem padB_left {s : ByteArray} {wd : Nat} {h : ByteArray} (hv : validT s.data.toList = true) (h2 : wd ≤ 120) (hh : h.data.toList = hLeft) : padB s wd h = s ++ spB (wd - s.size) := by
  unfold padB; rw [if_pos ⟨hv, by omega, by omega, .inl hh⟩, hh, Int.toNat_natCast]; rfl
theorem padB_right {s : ByteArray} {wd : Nat} {h : ByteArray} (hv : validT s.data.toList = true) (h2 : wd ≤ 120) (hh : h.data.toList = hRight) : padB s wd h = spB (wd - s.size) ++ s := by
  unfold padB; rw [if_pos ⟨hv, by omega, by omega, .inr (.inl hh)⟩, hh, Int.toNat_natCast]; rfl
theorem padB_mid {s : ByteArray} {wd : Nat} {h : ByteArray} (hv : validT s.data.toList = true) (h2 : wd ≤ 120) (hh : h.data.toList = hMid) : padB s wd h = spB ((wd - s.size) / 2) ++ s ++ spB (wd - s.size - (wd - s.size) / 2) := by
  unfold padB; rw [if_pos ⟨hv, by omega, by omega, .inr (.inr hh)⟩, hh, Int.toNat_natCast]; rfl
theorem app_sp0 (s : ByteArray) : s ++ spB 0 = s := ba_ext (by rw [ByteArray.data_append, Array.toList_append]; show _ ++ [] = _; simp)
theorem sp0_app (s : ByteArray) : spB 0 ++ s = s := ba_ext (by rw [ByteArray.data_append, Array.toList_append]; rfl)
end Go.Proofs.Ytadlelcckalcoaa.pl

