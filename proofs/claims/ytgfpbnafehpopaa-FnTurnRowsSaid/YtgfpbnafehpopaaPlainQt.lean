/- Plain mathematics: lines a level deeper; lines that are drawn, each by its place. -/
import Derived.Test.YtgfpbnafehpopaaPlainUq
import Derived.Test.YtgfpbnafehpopaaPlainD
namespace Go.Proofs.Ytgfpbnafehpopaa.pl

/-- a line a level deeper -/
def qS (s : ByteArray) : ByteArray := if s.size = 0 ∨ 0 < gt s then ⟨#[62]⟩ ++ s else ⟨#[62, 32]⟩ ++ s
theorem qS_same {s : ByteArray} (h : s.size = 0 ∨ 0 < gt s) : qS s = ⟨#[62]⟩ ++ s := by simp only [qS, if_pos h]
theorem qS_new {s : ByteArray} (h1 : ¬ s.size = 0) (h2 : gt s = 0) : qS s = ⟨#[62, 32]⟩ ++ s := by
  unfold qS; rw [if_neg (by omega)]
theorem app_two (s : ByteArray) : (⟨#[62]⟩ : ByteArray) ++ (⟨#[32]⟩ ++ s) = ⟨#[62, 32]⟩ ++ s := by
  apply ba_ext
  simp [ByteArray.data_append, Array.toList_append]
theorem qS_two {s : ByteArray} (h1 : ¬ s.size = 0) (h2 : gt s = 0) : qS s = ⟨#[62]⟩ ++ (⟨#[32]⟩ ++ s) := by
  rw [qS_new h1 h2, app_two]
theorem qS_size (s : ByteArray) : (qS s).size ≤ s.size + 2 := by
  have z1 : (ByteArray.mk #[62]).size = 1 := rfl
  have z2 : (ByteArray.mk #[62, 32]).size = 2 := rfl
  unfold qS; split <;> rw [ByteArray.size_append] <;> omega
theorem qS_data (s : ByteArray) : (qS s).data.toList = if s.size = 0 ∨ 0 < gt s then 62 :: s.data.toList else 62 :: 32 :: s.data.toList := by
  unfold qS; split <;> simp [ByteArray.data_append, Array.toList_append]
theorem hasGt (s : ByteArray) : Lib.hasPrefix s.data.toList [62] = decide (0 < gt s) := by
  rw [hasP_gt]
  apply decide_eq_decide.2
  unfold gt
  cases s.data.toList with
  | nil => simp [gtL]
  | cons c r =>
    unfold gtL
    by_cases h : c = 62
    · simp [h]
    · simp [h]
/-- quoted, a line has one sign more, and tells the same -/
theorem q_gt (s : ByteArray) : gt (qS s) = gt s + 1 := by
  unfold gt
  rw [qS_data]
  split
  · show gtL (62 :: s.data.toList) = _
    simp [gtL]
  · rename_i h
    have h0 : gtL s.data.toList = 0 := by have : gt s = gtL s.data.toList := rfl; omega
    rw [h0]
    show gtL (62 :: 32 :: s.data.toList) = _
    simp [gtL]
theorem q_unq (s : ByteArray) : unqB (qS s) = unqB s := by
  apply ba_ext
  unfold unqB uk
  rw [q_gt, bs_data, bs_data, if_neg (by omega), qS_data]
  by_cases h : s.size = 0 ∨ 0 < gt s
  · rw [if_pos h]
    have e : (62 :: s.data.toList)[gt s + 1]? = s.data.toList[gt s]? := by simp
    rw [e]
    by_cases h0 : gt s = 0
    · have hs : s.size = 0 := by omega
      have hl : s.data.toList = [] := List.length_eq_zero_iff.1 (by rw [len_eq]; exact hs)
      rw [hl, h0]; simp
    · rw [if_neg h0]
      split <;> simp
  · rw [if_neg h]
    have h0 : gt s = 0 := by omega
    rw [h0]; simp
def quoteL (l : List ByteArray) : List ByteArray := l.map qS
def quoteB (l : List ByteArray) : Bool := validLs l && validLs (quoteL l)
def quoteR (l : List ByteArray) : List ByteArray := if quoteB l = true then quoteL l else []

/-- what is drawn of n lines, each by its place: all of them, or none if one is no text -/
def drawL (f : Nat → ByteArray) (n : Nat) : List ByteArray := (List.range n).map f
theorem drawL_len (f : Nat → ByteArray) (n : Nat) : (drawL f n).length = n := by simp [drawL]
theorem drawL_nth (f : Nat → ByteArray) {n i : Nat} (h : i < n) : nth (drawL f n) i = f i := by
  rw [nth_eq (by rw [drawL_len]; exact h)]; simp [drawL]
/-- how a list of n lines comes about, k of them set -/
def drawTo (f : Nat → ByteArray) (l' : List ByteArray) (n k : Nat) : Prop := l'.length = n ∧ (∀ i, i < k → nth l' i = f i) ∧ ∀ i, i < k → validT (f i).data.toList = true
theorem drawTo_zero (f : Nat → ByteArray) (n : Nat) : drawTo f (List.replicate n ByteArray.empty) n 0 := ⟨by simp, fun _ h => absurd h (by omega), fun _ h => absurd h (by omega)⟩
theorem drawTo_all {f : Nat → ByteArray} {l' : List ByteArray} {n : Nat} (h : drawTo f l' n n) : l' = drawL f n := by
  apply nth_ext (by rw [h.1, drawL_len])
  intro i hi
  rw [h.1] at hi
  rw [h.2.1 i hi, drawL_nth f hi]
theorem drawTo_ok {f : Nat → ByteArray} {n : Nat} (h : ∀ i, i < n → validT (f i).data.toList = true) : (drawL f n).all (fun s => validT s.data.toList) = true := by
  rw [List.all_eq_true]
  intro x hx
  unfold drawL at hx
  rw [List.mem_map] at hx
  obtain ⟨i, hi, rfl⟩ := hx
  exact h i (List.mem_range.1 hi)
theorem drawTo_bad {f : Nat → ByteArray} {n k : Nat} (hk : k < n) (h : validT (f k).data.toList = false) : (drawL f n).all (fun s => validT s.data.toList) = false := by
  rw [List.all_eq_false]
  exact ⟨f k, by unfold drawL; rw [List.mem_map]; exact ⟨k, List.mem_range.2 hk, rfl⟩, by simp [h]⟩
theorem quote_draw (l : List ByteArray) : quoteL l = drawL (fun i => qS (nth l i)) l.length := by
  apply nth_ext (by unfold quoteL; rw [List.length_map, drawL_len])
  intro i hi
  unfold quoteL at hi
  rw [List.length_map] at hi
  rw [drawL_nth _ hi]
  unfold quoteL
  rw [nth_eq (by rw [List.length_map]; exact hi), List.getElem_map, nth_eq hi]
end Go.Proofs.Ytgfpbnafehpopaa.pl
