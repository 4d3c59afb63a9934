/- Plain mathematics: tabs. -/
import Derived.Test.YtgfpbnafehpopaaDoorPlainW
import Derived.Lib.Repeat
namespace Go.Proofs.YtgfpbnafehpopaaDoor.pl

def spL (n : Nat) : List UInt8 := List.replicate n 32
def spB (n : Nat) : ByteArray := bs (spL n)
theorem spB_size (n : Nat) : (spB n).size = n := by simp [spB, bs_size, spL]
theorem spL_len (n : Nat) : (spL n).length = n := by simp [spL]
theorem spB_zero : spB 0 = ⟨#[]⟩ := rfl
theorem spB_succ (n : Nat) : spB n ++ ⟨#[32]⟩ = spB (n + 1) := by
  unfold spB spL
  rw [List.replicate_succ']
  exact ByteArray.mk_append_mk _ _
theorem rep_sp (n : Nat) : Lib.repeatL (ByteArray.mk #[32]).data.toList n = spL n := by
  induction n with
  | zero => rfl
  | succ n ih => unfold Lib.repeatL; rw [ih]; rfl

def tabB (c : UInt8) : Bool := decide (c = 9) || plainB c
def tabT (l : List UInt8) : Bool := l.all tabB && decide (l.length ≤ 120)
def allQ (s : ByteArray) (k : Nat) : Prop := ∀ i (h : i < s.size), i < k → tabB s[i] = true
theorem allQ_zero (s : ByteArray) : allQ s 0 := fun _ _ h => absurd h (by omega)
theorem allQ_succ {s : ByteArray} {k : Nat} (h : allQ s k) (hk : k < s.size) (hc : tabB s[k] = true) : allQ s (k + 1) := by
  intro i hi hlt
  by_cases e : i = k
  · subst e; exact hc
  · exact h i hi (by omega)
theorem tabT_all {s : ByteArray} (h : allQ s s.size) : tabT s.data.toList = decide (s.size ≤ 120) := by
  unfold tabT
  have : s.data.toList.all tabB = true := by
    rw [List.all_eq_true]
    intro c hc
    obtain ⟨i, hi, rfl⟩ := List.getElem_of_mem hc
    exact h i (by simpa using hi) (by simpa using hi)
  rw [this, len_eq]; rfl
theorem tabT_bad {s : ByteArray} {k : Nat} (hk : k < s.size) (hc : tabB s[k] = false) : tabT s.data.toList = false := by
  unfold tabT
  have : s.data.toList.all tabB = false := by
    rw [List.all_eq_false]
    exact ⟨s[k], by
      have : s[k] = s.data.toList[k]'(by simpa using hk) := rfl
      rw [this]; exact List.getElem_mem _, by simp [hc]⟩
  rw [this]; rfl
theorem tabT_long {s : ByteArray} (hk : 120 < s.size) : tabT s.data.toList = false := by
  unfold tabT
  have : ¬ s.data.toList.length ≤ 120 := by rw [len_eq]; omega
  rw [decide_eq_false this]; simp
theorem tabT_size {s : ByteArray} (h : tabT s.data.toList = true) : s.size ≤ 120 := by
  unfold tabT at h
  simp only [Bool.and_eq_true, decide_eq_true_eq] at h
  rw [len_eq] at h; exact h.2
theorem tabT_allQ {s : ByteArray} (h : tabT s.data.toList = true) : allQ s s.size := by
  unfold tabT at h
  simp only [Bool.and_eq_true, List.all_eq_true] at h
  intro i hi _
  have : s[i] = s.data.toList[i]'(by rw [len_eq]; exact hi) := rfl
  rw [this]
  exact h.1 _ (List.getElem_mem _)
theorem tabB_cases (c : UInt8) : (c = 9) ∨ (¬ (c.toNat : Int) = 9 ∧ c ≠ 9 ∧ plainB c = true ∧ tabB c = true) ∨ (¬ (c.toNat : Int) = 9 ∧ plainB c = false ∧ tabB c = false) := by
  by_cases h : c = 9
  · exact .inl h
  · right
    have h' : ¬ (c.toNat : Int) = 9 := by
      intro e
      have e2 : c.toNat = 9 := by omega
      exact h (UInt8.toNat_inj.1 e2)
    by_cases hp : plainB c = true
    · exact .inl ⟨h', h, hp, by simp [tabB, hp]⟩
    · have hp' : plainB c = false := by simpa using hp
      exact .inr ⟨h', hp', by simp [tabB, h, hp']⟩
theorem tabB_nine {c : UInt8} (h : c = 9) : tabB c = true := by simp [tabB, h]
theorem tabB_lt {c : UInt8} (h : tabB c = true) : c.toNat ≤ 127 := by
  unfold tabB at h
  simp only [Bool.or_eq_true, decide_eq_true_eq] at h
  rcases h with h | h
  · rw [h]; decide
  · have := plainB_lt h; omega
theorem decode_tabs {s : ByteArray} {k : Nat} (hk : k < s.size) (hp : tabB s[k] = true) : Utf8.decode s k = ((s[k]'hk).toNat, 1) :=
  decode_ascii s k hk (by have := tabB_lt hp; omega)
theorem decode_ne9 {s : ByteArray} {k : Nat} (hk : k < s.size) (h9 : ¬ (s[k].toNat : Int) = 9) : ¬ ((Utf8.decode s k).1 : Int) = 9 := by
  by_cases h : (s[k]'hk).toNat < 128
  · rw [decode_ascii s k hk h]; exact h9
  · have := (decode_high s k hk (by omega)).1
    omega

/-- one byte more of a text whose tabs are expanded -/
def extB (wd : Nat) (o : List UInt8) (c : UInt8) : List UInt8 := if c = 9 then o ++ spL (wd - o.length % wd) else o ++ [c]
def expL (wd : Nat) (l : List UInt8) : List UInt8 := l.foldl (extB wd) []
def expTo (wd : Nat) (s : ByteArray) (k : Nat) : List UInt8 := expL wd (s.data.toList.take k)
theorem expTo_zero (wd : Nat) (s : ByteArray) : expTo wd s 0 = [] := rfl
theorem take_snoc {s : ByteArray} {k : Nat} (h : k < s.size) : s.data.toList.take (k + 1) = s.data.toList.take k ++ [s[k]] := by
  rw [List.take_succ_eq_append_getElem (by rw [len_eq]; exact h)]; rfl
theorem expTo_succ (wd : Nat) {s : ByteArray} {k : Nat} (h : k < s.size) : expTo wd s (k + 1) = extB wd (expTo wd s k) s[k] := by
  unfold expTo expL
  rw [take_snoc h, List.foldl_append]; rfl
theorem expTo_all (wd : Nat) (s : ByteArray) : expTo wd s s.size = expL wd s.data.toList := by
  unfold expTo
  rw [List.take_of_length_le (by rw [len_eq]; exact Nat.le_refl _)]
theorem extB_len {wd : Nat} (h1 : 1 ≤ wd) (h2 : wd ≤ 12) (o : List UInt8) (c : UInt8) : (extB wd o c).length ≤ o.length + 12 := by
  unfold extB
  split
  · rw [List.length_append, spL_len]; omega
  · simp
theorem expTo_len {wd : Nat} (h1 : 1 ≤ wd) (h2 : wd ≤ 12) (s : ByteArray) : ∀ k, k ≤ s.size → (expTo wd s k).length ≤ 12 * k
  | 0, _ => by rw [expTo_zero]; simp
  | k + 1, h => by
    rw [expTo_succ wd (by omega)]
    have := extB_len h1 h2 (expTo wd s k) s[k]
    have := expTo_len h1 h2 s k (by omega)
    omega
theorem extB_nine (wd : Nat) {o : List UInt8} {c : UInt8} (h : c = 9) : extB wd o c = o ++ spL (wd - o.length % wd) := by simp [extB, h]
theorem extB_else (wd : Nat) {o : List UInt8} {c : UInt8} (h : c ≠ 9) : extB wd o c = o ++ [c] := by simp [extB, h]
theorem wd_sub {wd : Nat} (n : Nat) (h : 1 ≤ wd) : (wd : Int) - (n : Int) % (wd : Int) = ((wd - n % wd : Nat) : Int) := by
  have h1 := Nat.mod_lt n (show 0 < wd by omega)
  rw [Int.natCast_sub (Nat.le_of_lt h1), Int.natCast_emod]
theorem mod_bd {wd : Nat} (n : Nat) (h : 1 ≤ wd) : 0 ≤ (n : Int) % (wd : Int) ∧ (n : Int) % (wd : Int) < wd :=
  ⟨Int.emod_nonneg _ (by omega), Int.emod_lt_of_pos _ (by omega)⟩

theorem bs_spB (o : List UInt8) (n : Nat) : bs o ++ spB n = bs (o ++ spL n) := ByteArray.mk_append_mk _ _
theorem bs_one (o : List UInt8) {s : ByteArray} {k : Nat} (hk : k < s.size) : bs o ++ s.extract k (k + 1) = bs (o ++ [s[k]]) := by
  rw [ex_bs, seg_succ (Nat.le_refl _) hk, seg_self]; exact ByteArray.mk_append_mk _ _
theorem byte_ne9 {c : UInt8} (h : c ≠ 9) : ¬ (c.toNat : Int) = 9 := by
  intro e
  have e2 : c.toNat = 9 := by omega
  exact h (UInt8.toNat_inj.1 e2)
/-- ExpandTabs -/
def expB (s : ByteArray) (wd : Int) : ByteArray := if tabT s.data.toList = true ∧ 1 ≤ wd ∧ wd ≤ 12 then bs (expL wd.toNat s.data.toList) else bs []
theorem expB_ok {s : ByteArray} {wd : Nat} (h : tabT s.data.toList = true) (h1 : 1 ≤ wd) (h2 : wd ≤ 12) : expB s wd = bs (expL wd s.data.toList) := by
  unfold expB; rw [if_pos ⟨h, by omega, by omega⟩, Int.toNat_natCast]
theorem expB_no {s : ByteArray} {wd : Int} (h : tabT s.data.toList = false ∨ wd < 1 ∨ 12 < wd) : expB s wd = bs [] := by
  unfold expB; rw [if_neg]; rintro ⟨h1, h2, h3⟩
  rcases h with h | h | h
  · rw [h] at h1; cases h1
  · omega
  · omega
end Go.Proofs.YtgfpbnafehpopaaDoor.pl
