/- Plain mathematics: what the laws say of words and folded texts. -/
import Derived.Test.YtgfpbnafehpopaaDoorPlainF
namespace Go.Proofs.YtgfpbnafehpopaaDoor.pl

def noSp (x : List UInt8) : Prop := ∀ c ∈ x, c ≠ 32
def good (x : List UInt8) : Prop := x ≠ [] ∧ noSp x
theorem noSp_snoc {x : List UInt8} {c : UInt8} (h : noSp x) (hc : c ≠ 32) : noSp (x ++ [c]) := by
  intro d hd
  rcases List.mem_append.1 hd with h1 | h1
  · exact h d h1
  · rw [List.mem_singleton.1 h1]; exact hc
theorem spl_good (l : List UInt8) : ∀ cur, noSp cur → ∀ x ∈ spl cur l, good x := by
  induction l with
  | nil =>
    intro cur hc x hx
    unfold spl at hx
    split at hx
    · cases hx
    · rw [List.mem_singleton.1 hx]; exact ⟨by assumption, hc⟩
  | cons c r ih =>
    intro cur hc x hx
    unfold spl at hx
    by_cases h : c = 32
    · rw [if_pos h] at hx
      split at hx
      · exact ih [] (fun _ h => by cases h) x hx
      · rcases List.mem_cons.1 hx with h1 | h1
        · rw [h1]; exact ⟨by assumption, hc⟩
        · exact ih [] (fun _ h => by cases h) x h1
    · rw [if_neg h] at hx
      exact ih _ (noSp_snoc hc h) x hx
theorem wordsL_good (l : List UInt8) : ∀ x ∈ wordsL l, good x := spl_good l [] (fun _ h => by cases h)

theorem spl_len1 (l : List UInt8) : ∀ cur, ∀ x ∈ spl cur l, x.length ≤ cur.length + l.length := by
  induction l with
  | nil =>
    intro cur x hx
    unfold spl at hx
    split at hx
    · cases hx
    · rw [List.mem_singleton.1 hx]; simp
  | cons c r ih =>
    intro cur x hx
    unfold spl at hx
    by_cases h : c = 32
    · rw [if_pos h] at hx
      split at hx
      · have := ih [] x hx; simp only [List.length_nil, List.length_cons] at this ⊢; omega
      · rcases List.mem_cons.1 hx with h1 | h1
        · rw [h1]; omega
        · have := ih [] x h1; simp only [List.length_nil, List.length_cons] at this ⊢; omega
    · rw [if_neg h] at hx
      have := ih _ x hx
      simp only [List.length_append, List.length_cons, List.length_nil] at this ⊢
      omega
theorem spl_app {x : List UInt8} (hx : noSp x) : ∀ cur r, spl cur (x ++ r) = spl (cur ++ x) r := by
  induction x with
  | nil => intro cur r; simp
  | cons c x ih =>
    intro cur r
    have hc : c ≠ 32 := hx c (by simp)
    rw [List.cons_append]
    conv => lhs; unfold spl
    rw [if_neg hc, ih (fun d hd => hx d (by simp [hd])), List.append_assoc]
    rfl
theorem tail_cons (y : List UInt8) (r : List (List UInt8)) : Lib.joinTail [32] (y :: r) = 32 :: (y ++ Lib.joinTail [32] r) := by simp [Lib.joinTail]
theorem spl_tail (r : List (List UInt8)) : ∀ x, x ≠ [] → (∀ y ∈ r, good y) → spl x (Lib.joinTail [32] r) = x :: r := by
  induction r with
  | nil => intro x hx _; simp [Lib.joinTail, spl, hx]
  | cons y r ih =>
    intro x hx hr
    have hy := hr y (by simp)
    rw [tail_cons]
    conv => lhs; unfold spl
    rw [if_pos rfl, if_neg hx, spl_app hy.2, List.nil_append, ih y hy.1 (fun z hz => hr z (by simp [hz]))]
theorem wordsL_join {ws : List (List UInt8)} (h : ∀ y ∈ ws, good y) : wordsL (Lib.join ws [32]) = ws := by
  cases ws with
  | nil => rfl
  | cons x r =>
    have hx := h x (by simp)
    unfold wordsL
    rw [Lib.join_cons, spl_app hx.2, List.nil_append, spl_tail r x hx.1 (fun z hz => h z (by simp [hz]))]

/-- a property of bytes that holds of a text holds of its words -/
theorem spl_all (p : UInt8 → Bool) (l : List UInt8) : ∀ cur, (cur.all p = true) → (l.all p = true) → ∀ x ∈ spl cur l, x.all p = true := by
  induction l with
  | nil =>
    intro cur hc _ x hx
    unfold spl at hx
    split at hx
    · cases hx
    · rw [List.mem_singleton.1 hx]; exact hc
  | cons c r ih =>
    intro cur hc hl x hx
    simp only [List.all_cons, Bool.and_eq_true] at hl
    unfold spl at hx
    by_cases h : c = 32
    · rw [if_pos h] at hx
      split at hx
      · exact ih [] rfl hl.2 x hx
      · rcases List.mem_cons.1 hx with h1 | h1
        · rw [h1]; exact hc
        · exact ih [] rfl hl.2 x h1
    · rw [if_neg h] at hx
      exact ih _ (by simp [hc, hl.1]) hl.2 x hx
theorem tail_all (p : UInt8 → Bool) (hp : p 32 = true) (r : List (List UInt8)) (h : ∀ x ∈ r, x.all p = true) : (Lib.joinTail [32] r).all p = true := by
  induction r with
  | nil => rfl
  | cons y r ih =>
    rw [tail_cons, List.all_cons, List.all_append, hp, h y (by simp), ih (fun z hz => h z (by simp [hz]))]; rfl
theorem join_all (p : UInt8 → Bool) (hp : p 32 = true) (r : List (List UInt8)) (h : ∀ x ∈ r, x.all p = true) : (Lib.join r [32]).all p = true := by
  cases r with
  | nil => rfl
  | cons x r => rw [Lib.join_cons, List.all_append, h x (by simp), tail_all p hp r (fun z hz => h z (by simp [hz]))]; rfl

theorem fold_valid {s : ByteArray} (h : validT s.data.toList = true) : validT (foldB s).data.toList = true := by
  have h' := h
  unfold validT at h'
  simp only [Bool.and_eq_true] at h'
  have hs := foldB_size120 s
  rw [foldB_ok h] at hs ⊢
  rw [bs_data]
  rw [bs_size] at hs
  have ha : (Lib.join (wordsL s.data.toList) [32]).all plainB = true := join_all plainB (by decide) _ (fun x hx => spl_all plainB _ [] rfl h'.1 x hx)
  unfold validT
  rw [ha, decide_eq_true hs]; rfl
theorem fold_words {s : ByteArray} (h : validT s.data.toList = true) : wordsOf (foldB s) = wordsOf s := by
  rw [wordsOf_ok (fold_valid h), wordsOf_ok h]
  unfold wordsB
  rw [foldB_ok h, bs_data, wordsL_join (wordsL_good _)]
theorem fold_fold {s : ByteArray} (h : validT s.data.toList = true) : foldB (foldB s) = foldB s := by
  have : wordsOf (foldB s) = wordsOf s := fold_words h
  unfold foldB at this ⊢
  rw [this]

/-- the bytes but for one -/
def without (l : List UInt8) (c : UInt8) : List UInt8 := l.filter (fun d => !(d == c))
theorem spl_flat (l : List UInt8) : ∀ cur, (spl cur l).flatten = cur ++ without l 32 := by
  induction l with
  | nil => intro cur; unfold spl; split <;> simp_all [without]
  | cons c r ih =>
    intro cur
    unfold spl
    by_cases h : c = 32
    · rw [if_pos h]
      have e : without (c :: r) 32 = without r 32 := by simp [without, h]
      split
      · rw [ih, e]; simp_all
      · rw [List.flatten_cons, ih, e]; simp
    · rw [if_neg h, ih]
      have e : without (c :: r) 32 = c :: without r 32 := by simp [without, h]
      rw [e, List.append_assoc]; rfl
theorem join_nosep (ws : List (List UInt8)) : Lib.join ws [] = ws.flatten := by
  cases ws with
  | nil => rfl
  | cons x r =>
    rw [Lib.join_cons, List.flatten_cons]
    congr 1
    induction r with
    | nil => rfl
    | cons y r ih => simp only [Lib.joinTail, List.map_cons, List.flatten_cons, List.nil_append] at ih ⊢; rw [ih]
theorem words_without {s : ByteArray} (h : validT s.data.toList = true) : bs (without s.data.toList 32) = joinB (wordsOf s) (bs []) := by
  unfold joinB
  rw [wordsOf_ok h]
  unfold wordsB
  rw [toL_map, bs_data, join_nosep]
  unfold wordsL
  rw [spl_flat]; rfl
theorem joinB_sp {s : ByteArray} : joinB (wordsOf s) ⟨#[32]⟩ = foldB s := rfl

/-- the first and the last byte of a folded text are no spaces -/
theorem join_head {ws : List (List UInt8)} (h : ∀ y ∈ ws, good y) {c : UInt8} {r : List UInt8} (e : Lib.join ws [32] = c :: r) : c ≠ 32 := by
  cases ws with
  | nil => cases e
  | cons x r' =>
    rw [Lib.join_cons] at e
    have hx := h x (by simp)
    cases x with
    | nil => exact absurd rfl hx.1
    | cons d x' =>
      rw [List.cons_append] at e
      injection e with e1 _
      rw [← e1]; exact hx.2 d (by simp)
theorem tail_last (r : List (List UInt8)) : ∀ x, good x → (∀ y ∈ r, good y) → ∀ c, (x ++ Lib.joinTail [32] r).getLast? = some c → c ≠ 32 := by
  induction r with
  | nil =>
    intro x hx _ c hc
    simp only [Lib.joinTail, List.map_nil, List.flatten_nil, List.append_nil] at hc
    exact hx.2 c (List.mem_of_getLast? hc)
  | cons y r ih =>
    intro x hx hr c hc
    rw [tail_cons, List.getLast?_append, List.getLast?_cons] at hc
    simp only [Option.some_or, Option.some.injEq] at hc
    cases hd : (y ++ Lib.joinTail [32] r).getLast? with
    | none => rw [List.getLast?_eq_none_iff] at hd; exact absurd (List.append_eq_nil_iff.1 hd).1 (hr y (by simp)).1
    | some d =>
      rw [hd] at hc
      simp only [Option.getD_some] at hc
      subst hc
      exact ih y (hr y (by simp)) (fun z hz => hr z (by simp [hz])) _ hd
theorem join_last {ws : List (List UInt8)} (h : ∀ y ∈ ws, good y) {c : UInt8} (e : (Lib.join ws [32]).getLast? = some c) : c ≠ 32 := by
  cases ws with
  | nil => cases e
  | cons x r => rw [Lib.join_cons] at e; exact tail_last r x (h x (by simp)) (fun z hz => h z (by simp [hz])) c e
end Go.Proofs.YtgfpbnafehpopaaDoor.pl
