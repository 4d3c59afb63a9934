/- Plain mathematics: tabs that are put back are expanded back. -/
import Derived.Test.YtcghlhjlfppllaaDoorPlainR
namespace Go.Proofs.YtcghlhjlfppllaaDoor.pl

theorem rcut_rest (l : List UInt8) : ∀ n, n ≤ l.length → l.take n = l.take (rcut l n) ++ spL (n - rcut l n)
  | 0, _ => by simp [rcut, spL]
  | n + 1, h => by
    by_cases e : l[n]? = some 32
    · rw [rcut_sp e, List.take_add_one, e, rcut_rest l n (by omega)]
      have h2 := rcut_le l n
      rw [show n + 1 - rcut l n = (n - rcut l n) + 1 from by omega]
      have h3 : spL ((n - rcut l n) + 1) = spL (n - rcut l n) ++ [32] := by unfold spL; rw [List.replicate_succ']
      rw [h3, List.append_assoc]
      congr 1
    · rw [rcut_no e, Nat.sub_self]; simp [spL]
theorem rtrim_rest (b : List UInt8) : b = rtrim b ++ spL (b.length - (rtrim b).length) := by
  have h := rcut_rest b b.length (Nat.le_refl _)
  rw [List.take_of_length_le (Nat.le_refl _)] at h
  have hl : (rtrim b).length = rcut b b.length := by
    unfold rtrim; rw [List.length_take]; have := rcut_le b b.length; omega
  rw [hl]; exact h
theorem exp_plain (wd : Nat) (x : List UInt8) : (¬ (9 : UInt8) ∈ x) → ∀ o, x.foldl (extB wd) o = o ++ x := by
  induction x with
  | nil => intro _ o; simp
  | cons c r ih =>
    intro h o
    have hc : c ≠ 9 := fun e => h (by simp [e])
    rw [List.foldl_cons, extB_else wd hc, ih (fun hm => h (by simp [hm])), List.append_assoc]; rfl
theorem mem_rtrim {b : List UInt8} {c : UInt8} (h : c ∈ rtrim b) : c ∈ b := List.mem_of_mem_take h
theorem exp_tb {wd : Nat} (_h2 : 2 ≤ wd) {b o : List UInt8} (hb : b.length = wd) (h9 : ¬ (9 : UInt8) ∈ b) (ho : o.length % wd = 0) : (tb b).foldl (extB wd) o = o ++ b := by
  unfold tb
  split
  · exact exp_plain wd b h9 o
  · rename_i hlt
    have hr := rtrim_len b
    rw [List.foldl_append, exp_plain wd _ (fun hm => h9 (mem_rtrim hm)), List.foldl_cons, List.foldl_nil, extB_nine wd rfl, List.append_assoc]
    congr 1
    have hm : (o ++ rtrim b).length % wd = (rtrim b).length := by
      rw [List.length_append, Nat.add_mod, ho, Nat.zero_add, Nat.mod_mod, Nat.mod_eq_of_lt (by omega)]
    rw [hm]
    conv => rhs; rw [rtrim_rest b]
    rw [hb]
theorem exp_tabF {wd : Nat} (h2 : 2 ≤ wd) : ∀ f (l o : List UInt8), (¬ (9 : UInt8) ∈ l) → o.length % wd = 0 → (tabF wd f l).foldl (extB wd) o = o ++ l
  | 0, l, o, h9, _ => exp_plain wd l h9 o
  | f + 1, l, o, h9, ho => by
    by_cases hl : l.length < wd
    · rw [tabF_short hl]; exact exp_plain wd l h9 o
    · rw [tabF_step hl, List.foldl_append, exp_tb h2 (by rw [List.length_take]; omega) (fun hm => h9 (List.mem_of_mem_take hm)) ho,
        exp_tabF h2 f _ _ (fun hm => h9 (List.mem_of_mem_drop hm)) (by rw [List.length_append, List.length_take, Nat.min_eq_left (by omega), Nat.add_mod_right]; exact ho),
        List.append_assoc, List.take_append_drop]
theorem exp_tabL {wd : Nat} (h2 : 2 ≤ wd) (l : List UInt8) (h9 : ¬ (9 : UInt8) ∈ l) : expL wd (tabL wd l) = l := by
  have := exp_tabF h2 120 l [] h9 (Nat.zero_mod _)
  simpa [expL, tabL] using this
theorem tabF_len (wd : Nat) : ∀ f (l : List UInt8), (tabF wd f l).length ≤ l.length
  | 0, _ => Nat.le_refl _
  | f + 1, l => by
    by_cases hl : l.length < wd
    · rw [tabF_short hl]; exact Nat.le_refl _
    · rw [tabF_step hl, List.length_append]
      have h1 := tb_len (l.take wd)
      have h2 := tabF_len wd f (l.drop wd)
      rw [List.length_take] at h1; rw [List.length_drop] at h2
      omega
theorem tb_all {p : UInt8 → Bool} (h9 : p 9 = true) {b : List UInt8} (h : b.all p = true) : (tb b).all p = true := by
  unfold tb; split
  · exact h
  · rw [List.all_append, Bool.and_eq_true]
    refine ⟨?_, by simp [h9]⟩
    rw [List.all_eq_true] at h ⊢
    exact fun x hx => h x (mem_rtrim hx)
theorem tabF_all {p : UInt8 → Bool} (h9 : p 9 = true) (wd : Nat) : ∀ f (l : List UInt8), l.all p = true → (tabF wd f l).all p = true
  | 0, _, h => h
  | f + 1, l, h => by
    by_cases hl : l.length < wd
    · rw [tabF_short hl]; exact h
    · rw [tabF_step hl, List.all_append, Bool.and_eq_true]
      rw [List.all_eq_true] at h
      exact ⟨tb_all h9 (by rw [List.all_eq_true]; exact fun x hx => h x (List.mem_of_mem_take hx)),
        tabF_all h9 wd f _ (by rw [List.all_eq_true]; exact fun x hx => h x (List.mem_of_mem_drop hx))⟩
/-- what the law asks of a text with tabs that is not empty -/
structure TabOk (s : ByteArray) (a : Int) : Prop where
  wf : 2 ≤ a ∧ a ≤ 12
  size : (tabB' s a).size ≤ s.size
  back : expB (tabB' s a) a = s
theorem tabOk_of {s : ByteArray} {a : Int} (h : ¬ (tabB' s a).size = 0) : TabOk s a := by
  by_cases hv : validT s.data.toList = true
  · by_cases h1 : a < 2
    · rw [tabX_no (.inr (.inl h1))] at h; exact absurd rfl h
    · by_cases h2 : 12 < a
      · rw [tabX_no (.inr (.inr h2))] at h; exact absurd rfl h
      · obtain ⟨wd, rfl⟩ := Int.eq_ofNat_of_zero_le (show 0 ≤ a by omega)
        have hsz := validT_size hv
        have hl := tabF_len wd 120 s.data.toList
        rw [len_eq] at hl
        have e := tabX_ok hv (show 2 ≤ wd by omega) (show wd ≤ 12 by omega)
        have hv2 := hv
        unfold validT at hv2
        simp only [Bool.and_eq_true, List.all_eq_true] at hv2
        have h9 : ¬ (9 : UInt8) ∈ s.data.toList := fun hm => absurd (hv2.1 9 hm) (by decide)
        have htb : s.data.toList.all tabB = true := by
          rw [List.all_eq_true]; intro x hx; unfold tabB; rw [hv2.1 x hx]; simp
        have ht : tabT (bs (tabL wd s.data.toList)).data.toList = true := by
          rw [bs_data]
          unfold tabT tabL
          rw [tabF_all (by decide) wd 120 _ htb, decide_eq_true (by omega)]; rfl
        refine ⟨by omega, ?_, ?_⟩
        · rw [e, bs_size]; exact hl
        · rw [e, expB_ok ht (by omega) (by omega), bs_data, exp_tabL (by omega) _ h9, bs_self]
  · rw [tabX_no (.inl (by simpa using hv))] at h; exact absurd rfl h
end Go.Proofs.YtcghlhjlfppllaaDoor.pl
