/- Plain: the library's words for parts and for what stands in place of others, byte by byte. -/
import Derived.Test.YtgfpbnafehpopaaDoorPlainRd
import Derived.Lib.Replace
namespace Go.Proofs.YtgfpbnafehpopaaDoor.pl
set_option maxRecDepth 100000

theorem index_here {sub : List UInt8} {c : UInt8} {r : List UInt8} (h : sub.isPrefixOf (c :: r) = true) : Lib.index (c :: r) sub = ((0 : Nat) : Int) := by
  unfold Lib.index; rw [if_pos h]; rfl
theorem index_none' {sub : List UInt8} {c : UInt8} {r : List UInt8} (h : sub.isPrefixOf (c :: r) = false) (h2 : Lib.index r sub = -1) : Lib.index (c :: r) sub = -1 := by
  unfold Lib.index; rw [h, h2]; rfl
theorem index_later {sub : List UInt8} {c : UInt8} {r : List UInt8} {i : Nat} (h : sub.isPrefixOf (c :: r) = false) (h2 : Lib.index r sub = (i : Int)) : Lib.index (c :: r) sub = ((i + 1 : Nat) : Int) := by
  unfold Lib.index; rw [h, h2]
  have : ((i : Int) == -1) = false := by rw [beq_eq_false_iff_ne]; omega
  rw [this]; simp
theorem index_or (s sub : List UInt8) : Lib.index s sub = -1 ∨ ∃ i : Nat, Lib.index s sub = (i : Int) := by
  have := Lib.index_ge s sub
  by_cases h : Lib.index s sub = -1
  · exact .inl h
  · exact .inr ⟨(Lib.index s sub).toNat, by omega⟩

/-- what stands in place of each old, byte by byte; the number: bytes that still belong to an old -/
def raG (old new : List UInt8) : Nat → List UInt8 → List UInt8
  | _, [] => []
  | s + 1, _ :: r => raG old new s r
  | 0, c :: r => if old.isPrefixOf (c :: r) then new ++ raG old new (old.length - 1) r else c :: raG old new 0 r
theorem raG_skip (old new : List UInt8) : ∀ (s : Nat) (l : List UInt8), raG old new s l = raG old new 0 (l.drop s)
  | 0, l => by rw [List.drop_zero]
  | s + 1, [] => by simp [raG]
  | s + 1, c :: r => by rw [List.drop_succ_cons, ← raG_skip old new s r]; rfl
theorem raG_hit {old new : List UInt8} {c : UInt8} {r : List UInt8} (h0 : old ≠ []) (h : old.isPrefixOf (c :: r) = true) : raG old new 0 (c :: r) = new ++ raG old new 0 ((c :: r).drop old.length) := by
  conv => lhs; unfold raG
  rw [if_pos h, raG_skip]
  congr 2
  cases old with
  | nil => exact absurd rfl h0
  | cons d o => simp
theorem raG_miss {old new : List UInt8} {c : UInt8} {r : List UInt8} (h : old.isPrefixOf (c :: r) = false) : raG old new 0 (c :: r) = c :: raG old new 0 r := by
  conv => lhs; unfold raG
  rw [if_neg (by rw [h]; simp)]
theorem replaceK_raG (old new : List UInt8) (h0 : old ≠ []) : ∀ (n : Nat) (s : List UInt8), s.length ≤ n → Lib.replaceK old new (Lib.count s old) s = raG old new 0 s
  | n, [], _ => by
    have hi : Lib.index [] old = -1 := by
      unfold Lib.index
      cases old with
      | nil => exact absurd rfl h0
      | cons d o => rfl
    rw [Lib.count_miss hi]; rfl
  | 0, c :: r, h => by simp at h
  | n + 1, c :: r, h => by
    have hr : r.length ≤ n := by simpa using h
    cases hp : old.isPrefixOf (c :: r) with
    | true =>
      have hix := index_here hp
      rw [Lib.count_hit h0 hix, Nat.add_comm, Lib.replaceK_hit old new _ _ 0 hix, raG_hit h0 hp]
      have hl : 0 < old.length := List.length_pos_iff.2 h0
      rw [Nat.zero_add, replaceK_raG old new h0 n _ (by rw [List.length_drop]; simp; omega)]; rfl
    | false =>
      rw [raG_miss hp]
      rcases index_or r old with hm | ⟨i, hm⟩
      · have hix := index_none' hp hm
        rw [Lib.count_miss hix]
        have := replaceK_raG old new h0 n r hr
        rw [Lib.count_miss hm] at this
        rw [← this]; rfl
      · have hix := index_later hp hm
        have := replaceK_raG old new h0 n r hr
        rw [Lib.count_hit h0 hm, Nat.add_comm, Lib.replaceK_hit old new _ _ i hm] at this
        rw [Lib.count_hit h0 hix, Nat.add_comm, Lib.replaceK_hit old new _ _ (i + 1) hix, ← this]
        have e : (c :: r).drop (i + 1 + old.length) = r.drop (i + old.length) := by
          rw [show i + 1 + old.length = (i + old.length) + 1 from by omega, List.drop_succ_cons]
        rw [e, List.take_succ_cons]; rfl
theorem replaceAll_raG {old new : List UInt8} (h0 : old ≠ []) (h1 : ¬ old = new) (s : List UInt8) : Lib.replaceAll s old new = raG old new 0 s := by
  unfold Lib.replaceAll Lib.replace
  have e1 : (old == new) = false := beq_eq_false_iff_ne.2 h1
  have e2 : Lib.replaceNum s old (-1) = Lib.count s old := by unfold Lib.replaceNum; rw [if_pos (.inl (by decide))]
  rw [e1, e2]
  exact replaceK_raG old new h0 s.length s (Nat.le_refl _)

theorem bar_prefix (c : UInt8) (r : List UInt8) : ([32, 124, 32] : List UInt8).isPrefixOf (c :: r) = true ↔ (c = 32 ∧ r.take 2 = [124, 32]) := by
  cases r with
  | nil => simp [List.isPrefixOf]
  | cons d r =>
    cases r with
    | nil => simp [List.isPrefixOf]
    | cons e r =>
      simp only [List.isPrefixOf, Bool.and_eq_true, beq_iff_eq, Bool.and_true]
      constructor
      · rintro ⟨h1, h2, h3⟩; exact ⟨h1.symm, by simp [← h2, ← h3]⟩
      · rintro ⟨h1, h2⟩
        simp at h2
        exact ⟨h1.symm, h2.1.symm, h2.2.symm⟩
theorem cutG_drop : ∀ (s : Nat) (cur l : List UInt8), s ≤ l.length → cutG s cur l = cutG 0 cur (l.drop s)
  | 0, cur, l, _ => by rw [List.drop_zero]
  | s + 1, cur, [], h => by simp at h
  | s + 1, cur, c :: r, h => by rw [cutG_skip, List.drop_succ_cons]; exact cutG_drop s cur r (by simpa using h)
/-- the bytes that were read belong to the first part -/
def glue (cur : List UInt8) : List (List UInt8) → List (List UInt8)
  | [] => [cur]
  | p :: r => (cur ++ p) :: r
theorem splitK_ne (sep : List UInt8) (save : Nat) : ∀ (k : Nat) (s : List UInt8), Lib.splitK sep save k s ≠ []
  | 0, s => by simp [Lib.splitK]
  | k + 1, s => by unfold Lib.splitK; split <;> simp
theorem splitK_cutG : ∀ (n : Nat) (s cur : List UInt8), s.length ≤ n → glue cur (Lib.splitK [32, 124, 32] 0 (Lib.count s [32, 124, 32]) s) = cutG 0 cur s
  | n, [], cur, _ => by
    have hi : Lib.index [] ([32, 124, 32] : List UInt8) = -1 := rfl
    rw [Lib.count_miss hi]
    show glue cur [[]] = _
    unfold glue cutG; simp
  | 0, c :: r, _, h => by simp at h
  | n + 1, c :: r, cur, h => by
    have hr : r.length ≤ n := by simpa using h
    have h0 : ([32, 124, 32] : List UInt8) ≠ [] := by simp
    cases hp : ([32, 124, 32] : List UInt8).isPrefixOf (c :: r) with
    | true =>
      obtain ⟨rfl, h2⟩ := (bar_prefix c r).1 hp
      have hix := index_here hp
      have hl : 2 ≤ r.length := by
        have := congrArg List.length h2
        simp at this; omega
      rw [Lib.count_hit h0 hix, Nat.add_comm]
      conv => rhs; unfold cutG
      rw [if_pos ⟨rfl, h2⟩]
      unfold Lib.splitK
      have hm : (Lib.index (32 :: r) [32, 124, 32] == -1) = false := by rw [hix]; rfl
      rw [hm, hix]
      simp only [Bool.false_eq_true, if_false, Int.toNat_natCast, Nat.zero_add, List.take_zero, glue, List.append_nil]
      congr 1
      have ih := splitK_cutG n ((32 :: r).drop ([32, 124, 32] : List UInt8).length) [] (by rw [List.length_drop]; simp; omega)
      have e2 : (32 :: r).drop ([32, 124, 32] : List UInt8).length = r.drop 2 := by simp
      rw [e2] at ih ⊢
      rw [cutG_drop 2 [] r hl, ← ih]
      have hne : Lib.splitK [32, 124, 32] 0 (Lib.count (r.drop 2) [32, 124, 32]) (r.drop 2) ≠ [] := splitK_ne _ _ _ _
      generalize Lib.splitK [32, 124, 32] 0 (Lib.count (r.drop 2) [32, 124, 32]) (r.drop 2) = X at hne ⊢
      cases X with
      | nil => exact absurd rfl hne
      | cons p q => unfold glue; simp
    | false =>
      have hq : ¬ (c = 32 ∧ r.take 2 = [124, 32]) := fun e => by rw [(bar_prefix c r).2 e] at hp; cases hp
      rw [cutG_byte cur hq, ← splitK_cutG n r (cur ++ [c]) hr]
      rcases index_or r [32, 124, 32] with hm | ⟨i, hm⟩
      · have hix := index_none' hp hm
        rw [Lib.count_miss hix, Lib.count_miss hm]
        show glue cur [c :: r] = glue (cur ++ [c]) [r]
        unfold glue; simp
      · have hix := index_later hp hm
        rw [Lib.count_hit h0 hix, Lib.count_hit h0 hm, Nat.add_comm 1, Nat.add_comm 1]
        have e : (c :: r).drop (i + 1 + ([32, 124, 32] : List UInt8).length) = r.drop (i + ([32, 124, 32] : List UInt8).length) := by
          rw [show i + 1 + ([32, 124, 32] : List UInt8).length = (i + ([32, 124, 32] : List UInt8).length) + 1 from by omega, List.drop_succ_cons]
        unfold Lib.splitK
        have m1 : (Lib.index (c :: r) [32, 124, 32] == -1) = false := by rw [hix]; exact beq_eq_false_iff_ne.2 (by omega)
        have m2 : (Lib.index r [32, 124, 32] == -1) = false := by rw [hm]; exact beq_eq_false_iff_ne.2 (by omega)
        rw [m1, m2, hix, hm]
        simp only [Bool.false_eq_true, if_false, Int.toNat_natCast, Nat.add_zero]
        rw [e, List.take_succ_cons]
        unfold glue; simp
end Go.Proofs.YtgfpbnafehpopaaDoor.pl
