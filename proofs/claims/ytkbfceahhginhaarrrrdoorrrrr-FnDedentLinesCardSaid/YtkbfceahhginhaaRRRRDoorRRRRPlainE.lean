/- Plain mathematics: what the law says of expanded tabs. -/
import Derived.Test.YtkbfceahhginhaaRRRRDoorRRRRPlainL
import Derived.Test.YtkbfceahhginhaaRRRRDoorRRRRPlainT
import Derived.Test.YtkbfceahhginhaaRRRRDoorRRRRBytes
namespace Go.Proofs.YtkbfceahhginhaaRRRRDoorRRRR.pl

theorem sp_mem {n : Nat} {c : UInt8} (h : c ∈ spL n) : c = 32 := (List.mem_replicate.1 h).2
theorem exp_no9 (wd : Nat) (l : List UInt8) : ∀ o, ¬ (9 : UInt8) ∈ o → ¬ (9 : UInt8) ∈ l.foldl (extB wd) o := by
  induction l with
  | nil => intro o h; exact h
  | cons c r ih =>
    intro o h
    rw [List.foldl_cons]
    apply ih
    unfold extB
    split
    · intro hm
      rcases List.mem_append.1 hm with h1 | h1
      · exact h h1
      · exact absurd (sp_mem h1) (by decide)
    · intro hm
      rcases List.mem_append.1 hm with h1 | h1
      · exact h h1
      · rename_i hc; exact hc (List.mem_singleton.1 h1).symm
theorem expL_no9 (wd : Nat) (l : List UInt8) : hasC (bs (expL wd l)) 9 = false := decide_eq_false (exp_no9 wd l [] (by simp))
theorem without_app (a b : List UInt8) (c : UInt8) : without (a ++ b) c = without a c ++ without b c := by simp [without]
theorem without_sp (n : Nat) : without (spL n) 32 = [] := by
  unfold without spL
  rw [List.filter_eq_nil_iff]
  intro x hx
  rw [(List.mem_replicate.1 hx).2]; decide
theorem exp_without (wd : Nat) (l : List UInt8) : ∀ o, without (l.foldl (extB wd) o) 32 = without o 32 ++ without (without l 9) 32 := by
  induction l with
  | nil => intro o; simp [without]
  | cons c r ih =>
    intro o
    rw [List.foldl_cons, ih]
    unfold extB
    by_cases h : c = 9
    · rw [if_pos h, without_app, without_sp, List.append_nil]
      have : without (c :: r) 9 = without r 9 := by simp [without, h]
      rw [this]
    · rw [if_neg h, without_app, List.append_assoc]
      have : without (c :: r) 9 = c :: without r 9 := by simp [without, h]
      rw [this, show c :: without r 9 = [c] ++ without r 9 from rfl, without_app]
theorem expL_without (wd : Nat) (l : List UInt8) : without (expL wd l) 32 = without (without l 9) 32 := by
  have := exp_without wd l []
  simpa [expL, without] using this
theorem expL_tab (wd : Nat) (l : List UInt8) : expL wd (l ++ [9]) = expL wd l ++ spL (wd - (expL wd l).length % wd) := by
  unfold expL; rw [List.foldl_append]; rfl
theorem tabT_snoc {s : ByteArray} (h : tabT s.data.toList = true) (hl : s.size < 120) : tabT (s ++ ⟨#[9]⟩).data.toList = true := by
  rw [ByteArray.data_append, Array.toList_append]
  unfold tabT at h ⊢
  simp only [Bool.and_eq_true, decide_eq_true_eq] at h ⊢
  rw [len_eq] at h
  refine ⟨by rw [List.all_append, h.1]; rfl, ?_⟩
  rw [List.length_append, len_eq]; simp; omega
theorem snoc_data (s : ByteArray) : (s ++ ⟨#[9]⟩).data.toList = s.data.toList ++ [9] := by
  rw [ByteArray.data_append, Array.toList_append]
theorem mod_zero {wd : Nat} (n : Nat) (h : 1 ≤ wd) : (n + (wd - n % wd)) % wd = 0 := by
  have h1 := Nat.mod_lt n (show 0 < wd by omega)
  have h2 := Nat.mod_add_div n wd
  have e : n + (wd - n % wd) = wd * (n / wd + 1) := by rw [Nat.mul_add, Nat.mul_one]; omega
  rw [e, Nat.mul_mod_right]
/-- what the law asks of the text with a tab behind it -/
structure More (o m : ByteArray) (wd : Nat) : Prop where
  size : m.size ≤ 5000
  mod : ((m.size : Int) % (wd : Int) == 0) = true
  longer : o.size < m.size
  head : m.extract 0 o.size = o
theorem more_of (o : List UInt8) {wd : Nat} (h1 : 1 ≤ wd) (h2 : wd ≤ 12) (ho : o.length ≤ 1440) : More (bs o) (bs (o ++ spL (wd - o.length % wd))) wd := by
  have hm := Nat.mod_lt o.length (show 0 < wd by omega)
  have hs : (bs (o ++ spL (wd - o.length % wd))).size = o.length + (wd - o.length % wd) := by rw [bs_size, List.length_append, spL_len]
  refine ⟨by rw [hs]; omega, ?_, ?_, ?_⟩
  · rw [hs, beq_iff_eq, ← Int.natCast_emod, mod_zero _ h1]; rfl
  · rw [hs, bs_size]; omega
  · apply ba_ext
    rw [Lib.extract_data, bs_data, bs_data, bs_size, List.drop_zero, Nat.sub_zero, List.take_left]
theorem expB_cases {s : ByteArray} {a : Int} (h : ¬ (expB s a).size = 0) : ∃ wd : Nat, a = wd ∧ 1 ≤ wd ∧ wd ≤ 12 ∧ tabT s.data.toList = true := by
  by_cases hv : tabT s.data.toList = true
  · by_cases h1 : a < 1
    · rw [expB_no (.inr (.inl h1))] at h; exact absurd rfl h
    · by_cases h2 : 12 < a
      · rw [expB_no (.inr (.inr h2))] at h; exact absurd rfl h
      · exact ⟨a.toNat, by omega, by omega, by omega, hv⟩
  · rw [expB_no (.inl (by simpa using hv))] at h; exact absurd rfl h
end Go.Proofs.YtkbfceahhginhaaRRRRDoorRRRR.pl
