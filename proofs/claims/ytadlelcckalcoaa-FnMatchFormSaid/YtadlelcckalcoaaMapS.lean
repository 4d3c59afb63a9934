/- Maps of texts by names that a call made: what they hold is told by a function. -/
import Derived.Test.YtadlelcckalcoaaRows
import Derived.Test.YtadlelcckalcoaaPkD
import Derived.WalkKit
import Derived.WalkSpells
import Derived.Maps.Own
import Derived.Maps.OwnSet
import Derived.Maps.OwnOps
import Derived.Maps.Views
import Derived.Lib.Hide
namespace Go.Proofs.Ytadlelcckalcoaa
open Go.RowKit Go.Maps Go.ChangeMaps Go.WideMaps
set_option maxRecDepth 100000
set_option linter.unusedVariables false

theorem keyS : Keyed Try.prog 9 := string_keyed Try.underlying9
theorem zeroS (w : World) : (zeroValue 9).run Try.prog w = .ok (.string ⟨#[]⟩) w := by kernel_rfl
abbrev zS : DataW Unit := .lit (.string [])
/-- block b is a map of at most n entries that holds what vs says -/
def MapV (b n : Nat) (w : World) (vs : pl.Vals) : Prop :=
  ∃ D : DataW Unit, w.ownsMap Try.prog 9 (plainElem Try.prog 9) b n D ∧ (∀ m, Maps.has D (.string m) = (vs m).isSome) ∧ ∀ m x, vs m = some x → D.atKey (.string m) zS = .lit (.string x)
theorem MapV.made (w : World) : MapV w.heap.size 0 (w.alloc (.map #[] 0)) pl.noV :=
  ⟨.map [], World.ownsMap_made _ _ _ _, fun m => rfl, fun m x h => by cases h⟩
theorem MapV.mono {b n n' : Nat} {w : World} {vs : pl.Vals} (h : MapV b n w vs) (hn : n ≤ n') : MapV b n' w vs := by
  obtain ⟨D, h1, h2⟩ := h; exact ⟨D, h1.mono hn, h2⟩
theorem MapV.congr' {b n : Nat} {w : World} {vs us : pl.Vals} (h : MapV b n w vs) (e : ∀ k, vs k = us k) : MapV b n w us := by
  obtain rfl : vs = us := funext e
  exact h
theorem MapV.lt {b n : Nat} {w : World} {vs : pl.Vals} (h : MapV b n w vs) : b < w.heap.size := by obtain ⟨D, h1, _⟩ := h; exact h1.lt
theorem MapV.kept {b n : Nat} {w w' : World} {vs : pl.Vals} {row : Option Nat} (h : MapV b n w vs) (hg : w.grownBy w' row) (hne : some b ≠ row) : MapV b n w' vs := by
  obtain ⟨D, h1, h2⟩ := h; exact ⟨D, h1.kept hg hne, h2⟩
theorem MapV.below {b n C : Nat} {w w' : World} {vs : pl.Vals} (h : MapV b n w vs) (hb : Below C w w') (hC : w.heap.size ≤ C) : MapV b n w' vs := by
  have hlt := h.lt
  obtain ⟨D, ⟨es, clock, h1, r⟩, h2⟩ := h
  exact ⟨D, ⟨es, clock, (hb.block b (by omega)).trans h1, r⟩, h2⟩
theorem own_shrink {b n : Nat} {w : World} {D : DataW Unit} (h : w.ownsMap Try.prog 9 (plainElem Try.prog 9) b n D) : w.ownsMap Try.prog 9 (plainElem Try.prog 9) b (Maps.size D) D := by
  obtain ⟨es, clock, hb, F, hs, rfl⟩ := h
  exact ⟨es, clock, hb, F, by simp [Maps.size, length_sorted], rfl⟩
theorem putV_facts {D : DataW Unit} {vs : pl.Vals} (hD : IsMap D) (m v : List UInt8) (h1 : ∀ m, Maps.has D (.string m) = (vs m).isSome) (h2 : ∀ m x, vs m = some x → D.atKey (.string m) zS = .lit (.string x)) :
    (∀ k, Maps.has (D.put (.string m) (.lit (.string v))) (.string k) = ((fun k => if k = m then some v else vs k) k).isSome) ∧ ∀ k x, (if k = m then some v else vs k) = some x → (D.put (.string m) (.lit (.string v))).atKey (.string k) zS = .lit (.string x) := by
  have hk : WideAt.IsKeyLit (.string m) := trivial
  constructor
  · intro k
    by_cases e : k = m
    · subst e; rw [has_put_same hD hk]; simp
    · rw [has_put_other (fun h => e (by injection h)), h1]; simp [e]
  · intro k x hx
    by_cases e : k = m
    · subst e
      rw [if_pos rfl] at hx
      injection hx with hx
      rw [atKey_put_same hD hk, hx]
    · rw [if_neg e] at hx
      rw [atKey_put_other (fun h => e (by injection h)), h2 k x hx]
theorem delV_facts {D : DataW Unit} {vs : pl.Vals} (m : List UInt8) (h1 : ∀ m, Maps.has D (.string m) = (vs m).isSome) (h2 : ∀ m x, vs m = some x → D.atKey (.string m) zS = .lit (.string x)) :
    (∀ k, Maps.has (D.del (.string m)) (.string k) = ((fun k => if k = m then none else vs k) k).isSome) ∧ ∀ k x, (if k = m then none else vs k) = some x → (D.del (.string m)).atKey (.string k) zS = .lit (.string x) := by
  constructor
  · intro k
    by_cases e : k = m
    · subst e; rw [has_del_same]; simp
    · rw [has_del_other (fun h => e (by injection h)), h1]; simp [e]
  · intro k x hx
    by_cases e : k = m
    · subst e; rw [if_pos rfl] at hx; cases hx
    · rw [if_neg e] at hx
      rw [atKey_del_other (fun h => e (by injection h)), h2 k x hx]

section
variable {w : World} {ops : Array Oper} {rest : List Oper} {o : Oper} {a : Act} {Q : Exit → Act → World → Prop}
theorem wpList_look_some (hg : o.guard = none) (m x : Operand) (hop : o.op = Op.lookup 83 m x true) (b n : Nat) (vs : pl.Vals) (hm : a.eval m = .map (some b)) (hown : MapV b n w vs)
    (s : ByteArray) (hx : a.eval x = .string s) (hs : s.size ≤ maxLen) (v : List UInt8) (hv : vs s.data.toList = some v)
    (hK : wpList Try.prog ops Q rest (a.put o.dst (.tuple #[.string (pl.bs v), .bool true])) w) : wpList Try.prog ops Q (o :: rest) a w := by
  obtain ⟨D, h1, h2, h3⟩ := hown
  refine wpList_lookup_own_ok w hg m x 83 hop 9 9 keyS Try.underlying83 _ (zeroS w) zS [] (plainElem_string Try.underlying9 (by unfold maxLen; decide)) b n D hm h1 _ _ hx (keyOf_string_mk Try.underlying9 hs) ?_
  intro u ps hu
  obtain ⟨y, rfl, hy, _⟩ := plainElem_string_inv Try.underlying9 hu
  rw [h3 _ _ hv] at hy
  have e : y = pl.bs v := by
    simp only [Prod.mk.injEq, DataW.lit.injEq, Lit.string.injEq] at hy
    rw [← pl.bs_self y, ← hy.1]
  rw [h2, hv, e]
  exact hK
theorem wpList_look_none (hg : o.guard = none) (m x : Operand) (hop : o.op = Op.lookup 83 m x true) (b n : Nat) (vs : pl.Vals) (hm : a.eval m = .map (some b)) (hown : MapV b n w vs)
    (s : ByteArray) (hx : a.eval x = .string s) (hs : s.size ≤ maxLen) (hv : vs s.data.toList = none)
    (hK : wpList Try.prog ops Q rest (a.put o.dst (.tuple #[.string ⟨#[]⟩, .bool false])) w) : wpList Try.prog ops Q (o :: rest) a w := by
  obtain ⟨D, h1, h2, h3⟩ := hown
  refine wpList_lookup_own_ok w hg m x 83 hop 9 9 keyS Try.underlying83 _ (zeroS w) zS [] (plainElem_string Try.underlying9 (by unfold maxLen; decide)) b n D hm h1 _ _ hx (keyOf_string_mk Try.underlying9 hs) ?_
  intro u ps hu
  obtain ⟨y, rfl, hy, _⟩ := plainElem_string_inv Try.underlying9 hu
  rw [atKey_of_not_has (by rw [h2, hv]; rfl)] at hy
  have e : y = ⟨#[]⟩ := by
    simp only [zS, Prod.mk.injEq, DataW.lit.injEq, Lit.string.injEq] at hy
    rw [← pl.bs_self y, ← hy.1]; rfl
  rw [h2, hv, e]
  exact hK
theorem wpList_put_new (hg : o.guard = none) (m x v : Operand) (hop : o.op = Op.mapUpdate 83 m x v) (b n : Nat) (vs : pl.Vals) (hm : a.eval m = .map (some b)) (hown : MapV b n w vs) (hn : n < maxLen)
    (s y : ByteArray) (hx : a.eval x = .string s) (hv : a.eval v = .string y) (hs : s.size ≤ maxLen) (hy : y.size ≤ maxLen)
    (hK : ∀ w', MapV b (n + 1) w' (fun k => if k = s.data.toList then some y.data.toList else vs k) → w.grownBy w' (some b) → wpList Try.prog ops Q rest (a.put o.dst undef) w') : wpList Try.prog ops Q (o :: rest) a w := by
  obtain ⟨D, h1, h2, h3⟩ := hown
  refine wpList_mapUpdate_own w hg m x v 83 hop 9 9 keyS Try.underlying83 _ b n D hm h1 hn _ _ _ hx hv (keyOf_string_mk Try.underlying9 hs) _ [] (plainElem_string Try.underlying9 hy) ?_
  intro w' h4 h5
  obtain ⟨f1, f2⟩ := putV_facts h1.isMap s.data.toList y.data.toList h2 h3
  exact hK w' ⟨_, h4, f1, f2⟩ h5
/-- a name that is there already gets another value -/
theorem wpList_put_old (hg : o.guard = none) (m x v : Operand) (hop : o.op = Op.mapUpdate 83 m x v) (b n : Nat) (vs : pl.Vals) (hm : a.eval m = .map (some b)) (hown : MapV b n w vs) (hn : n < maxLen)
    (s y : ByteArray) (hx : a.eval x = .string s) (hv : a.eval v = .string y) (hs : s.size ≤ maxLen) (hy : y.size ≤ maxLen) (hold : (vs s.data.toList).isSome = true)
    (hK : ∀ w', MapV b n w' (fun k => if k = s.data.toList then some y.data.toList else vs k) → w.grownBy w' (some b) → wpList Try.prog ops Q rest (a.put o.dst undef) w') : wpList Try.prog ops Q (o :: rest) a w := by
  obtain ⟨D, h1, h2, h3⟩ := hown
  refine wpList_mapUpdate_own w hg m x v 83 hop 9 9 keyS Try.underlying83 _ b n D hm h1 hn _ _ _ hx hv (keyOf_string_mk Try.underlying9 hs) _ [] (plainElem_string Try.underlying9 hy) ?_
  intro w' h4 h5
  obtain ⟨f1, f2⟩ := putV_facts h1.isMap s.data.toList y.data.toList h2 h3
  have hsz : Maps.size (D.put (.string s.data.toList) (.lit (.string y.data.toList))) ≤ n := by
    rw [size_put (h1.tidy keyS), h2, hold, if_pos rfl]
    exact h1.size_le
  exact hK w' ⟨_, (own_shrink h4).mono hsz, f1, f2⟩ h5
theorem wpList_drop_old (hg : o.guard = none) (m x : Operand) (hop : o.op = Op.call { callee := Callee.builtin Builtin.delete, args := #[m, x], argTypes := #[83, 9] }) (b n : Nat) (vs : pl.Vals) (hm : a.eval m = .map (some b)) (hown : MapV b (n + 1) w vs)
    (s : ByteArray) (hx : a.eval x = .string s) (hs : s.size ≤ maxLen) (hold : (vs s.data.toList).isSome = true)
    (hK : ∀ w', MapV b n w' (fun k => if k = s.data.toList then none else vs k) → w.grownBy w' (some b) → wpList Try.prog ops Q rest (a.put o.dst (.tuple #[])) w') : wpList Try.prog ops Q (o :: rest) a w := by
  obtain ⟨D, h1, h2, h3⟩ := hown
  refine wpList_delete_own w hg m x 83 9 hop 9 keyS Try.underlying83 _ b (n + 1) D hm h1 _ _ hx (keyOf_string_mk Try.underlying9 hs) ?_
  intro w' h4 h5
  obtain ⟨f1, f2⟩ := delV_facts s.data.toList h2 h3
  have hsz : Maps.size (D.del (.string s.data.toList)) ≤ n := by
    have e := size_del (k := .string s.data.toList) (h1.tidy keyS)
    rw [h2, hold, if_pos rfl] at e
    have := h1.size_le
    omega
  refine hK w' ⟨_, (own_shrink h4).mono hsz, f1, f2⟩ ?_
  obtain ⟨es, clock, es', clock', hb, rfl⟩ := h5
  exact ⟨rfl, rfl, rfl, by simp [setBlock], fun i _ hi => heap_setBlock_other hb _ (fun e => hi (by rw [e]))⟩
end
end Go.Proofs.Ytadlelcckalcoaa
