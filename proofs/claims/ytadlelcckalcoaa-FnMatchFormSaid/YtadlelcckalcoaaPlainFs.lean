/- Plain: a form as the model parts it: texts, and names between them. -/
import Derived.Test.YtadlelcckalcoaaPlainFp
import Derived.Test.YtadlelcckalcoaaPkD
namespace Go.Proofs.Ytadlelcckalcoaa.pl
set_option maxRecDepth 100000
set_option linter.unusedVariables false

def chT (t : ByteArray) : List Tok := t.data.toList.map Sum.inl
def mkT : List ByteArray → List ByteArray → List Tok
  | t :: T, n :: N => chT t ++ Sum.inr n.data.toList :: mkT T N
  | _, _ => []
def toT : List ByteArray → List ByteArray → List Tok
  | [], _ => []
  | t :: T, [] => chT t
  | t :: T, n :: N => chT t ++ Sum.inr n.data.toList :: toT T N
theorem mkT_snoc : ∀ {T N : List ByteArray} (t n : ByteArray), T.length = N.length → mkT (T ++ [t]) (N ++ [n]) = mkT T N ++ (chT t ++ [Sum.inr n.data.toList])
  | [], [], t, n, _ => rfl
  | [], n' :: N, t, n, h => by simp at h
  | t' :: T, [], t, n, h => by simp at h
  | t' :: T, n' :: N, t, n, h => by
    have ih := mkT_snoc (T := T) (N := N) t n (by simpa using h)
    show chT t' ++ Sum.inr n'.data.toList :: mkT (T ++ [t]) (N ++ [n]) = (chT t' ++ Sum.inr n'.data.toList :: mkT T N) ++ _
    rw [ih]; simp
theorem toT_last : ∀ {T N : List ByteArray} (t : ByteArray), T.length = N.length → toT (T ++ [t]) N = mkT T N ++ chT t
  | [], [], t, _ => rfl
  | [], n' :: N, t, h => by simp at h
  | t' :: T, [], t, h => by simp at h
  | t' :: T, n' :: N, t, h => by
    have ih := toT_last (T := T) (N := N) t (by simpa using h)
    show chT t' ++ Sum.inr n'.data.toList :: toT (T ++ [t]) N = (chT t' ++ Sum.inr n'.data.toList :: mkT T N) ++ _
    rw [ih]; simp
theorem holesT_cons (n : List UInt8) (r : List Tok) : holesT (Sum.inr n :: r) = n :: holesT r := rfl
theorem toT_holes : ∀ {T N : List ByteArray}, T.length = N.length + 1 → holesT (toT T N) = N.map (fun n => n.data.toList)
  | [], N, h => by simp at h
  | t :: T, [], h => holesT_bytes _
  | t :: T, n :: N, h => by
    have ih := toT_holes (T := T) (N := N) (by simpa using h)
    show holesT (chT t ++ Sum.inr n.data.toList :: toT T N) = _
    rw [holesT_append, holesT_cons, ih]
    show holesT (t.data.toList.map Sum.inl) ++ _ = _
    rw [holesT_bytes]; rfl

theorem drop_at {s : ByteArray} {k : Nat} (hk : k < s.size) : s.data.toList.drop k = s[k] :: s.data.toList.drop (k + 1) := drop_cons hk
theorem seg_split {s : ByteArray} {i : Nat} : ∀ {k : Nat}, i ≤ k → k ≤ s.size → s.data.toList.drop i = seg s.data.toList i k ++ s.data.toList.drop k
  | k, h1, h2 => by
    unfold seg
    conv => lhs; rw [← List.take_append_drop (k - i) (s.data.toList.drop i)]
    rw [List.drop_drop, show i + (k - i) = k from by omega]
/-- no closing bracket from i up to k -/
def noClose (s : ByteArray) (i k : Nat) : Prop := ∀ j (h : j < s.size), i ≤ j → j < k → s[j] ≠ 125
theorem noClose_start (s : ByteArray) (i : Nat) : noClose s i i := fun j h h1 h2 => absurd h2 (by omega)
theorem noClose_next {s : ByteArray} {i k : Nat} (h : noClose s i k) (hk : k < s.size) (e : s[k] ≠ 125) : noClose s i (k + 1) := by
  intro j hj h1 h2
  by_cases e2 : j = k
  · subst e2; exact e
  · exact h j hj h1 (by omega)
theorem seg_noClose {s : ByteArray} {i k : Nat} (h : noClose s i k) (h1 : i ≤ k) (h2 : k ≤ s.size) : ∀ c ∈ seg s.data.toList i k, (c != 125) = true := by
  intro c hc
  unfold seg at hc
  obtain ⟨j, hj, rfl⟩ := List.getElem_of_mem hc
  have hj2 : j < k - i ∧ i + j < s.size := by
    have h3 := hj
    rw [List.length_take, List.length_drop, len_eq] at h3
    omega
  have e : (List.take (k - i) (List.drop i s.data.toList))[j]'hj = s[i + j]'(hj2.2) := by
    rw [List.getElem_take, List.getElem_drop]; rfl
  rw [e]
  have := h (i + j) hj2.2 (by omega) (by omega)
  simpa using this
theorem close_at {s : ByteArray} {i k : Nat} (h : noClose s i k) (h1 : i ≤ k) (hk : k < s.size) (e : s[k] = 125) :
    upTo (s.data.toList.drop i) = seg s.data.toList i k ∧ (s.data.toList.drop i).contains 125 = true ∧ behind (s.data.toList.drop i) = s.data.toList.drop (k + 1) := by
  have hs := seg_split (s := s) h1 (by omega)
  rw [drop_at hk, e] at hs
  obtain ⟨hu, hb⟩ := upTo_cut (r := s.data.toList.drop (k + 1)) (seg_noClose h h1 (by omega))
  rw [hs]
  exact ⟨hu, by simp, hb⟩
theorem close_none {s : ByteArray} {i : Nat} (h : noClose s i s.size) (h1 : i ≤ s.size) : (s.data.toList.drop i).contains 125 = false := by
  have hs := seg_split (s := s) h1 (Nat.le_refl _)
  rw [drop_all, List.append_nil] at hs
  rw [hs]
  have := seg_noClose h h1 (Nat.le_refl _)
  rw [← Bool.not_eq_true]
  intro hc
  rw [List.contains_iff_mem] at hc
  have := this 125 hc
  simp at this

structure PInv (s : ByteArray) (i : Nat) (T N : List ByteArray) (now : List UInt8) : Prop where
  told : toks s.data.toList = (toks (s.data.toList.drop i)).map ((mkT T N ++ now.map Sum.inl) ++ ·)
  same : T.length = N.length
  name : ∀ n ∈ N, nameB n.data.toList = true
  len : N.length + now.length ≤ i
  size : ∀ t ∈ T, t.size ≤ s.size
theorem PInv.start (s : ByteArray) : PInv s 0 [] [] [] := ⟨by show toks _ = (toks (s.data.toList.drop 0)).map (([] : List Tok) ++ ·); rw [map_pre_nil]; rfl, rfl, (fun n h => by cases h), Nat.le_refl _, (fun t h => by cases h)⟩
theorem PInv.plain {s : ByteArray} {i : Nat} {T N : List ByteArray} {now : List UInt8} (h : PInv s i T N now) (hi : i < s.size) (hb : isBr s[i] = false) : PInv s (i + 1) T N (now ++ [s[i]]) := by
  refine ⟨?_, h.same, h.name, by rw [List.length_append, List.length_singleton]; have := h.len; omega, h.size⟩
  rw [h.told, drop_at hi, toks_plain hb, show (toks (s.data.toList.drop (i + 1))).map (Sum.inl s[i] :: ·) = (toks (s.data.toList.drop (i + 1))).map ([Sum.inl s[i]] ++ ·) from rfl, map_pre_pre]
  simp
theorem PInv.two {s : ByteArray} {i : Nat} {T N : List ByteArray} {now : List UInt8} (h : PInv s i T N now) (hi : i + 1 < s.size) (hb : isBr s[i] = true) (e : s[i + 1] = s[i]) : PInv s (i + 2) T N (now ++ [s[i]]) := by
  refine ⟨?_, h.same, h.name, by rw [List.length_append, List.length_singleton]; have := h.len; omega, h.size⟩
  rw [h.told, drop_at (k := i) (by omega), drop_at (k := i + 1) hi, e, toks_twice hb, show (toks (s.data.toList.drop (i + 1 + 1))).map (Sum.inl s[i] :: ·) = (toks (s.data.toList.drop (i + 2))).map ([Sum.inl s[i]] ++ ·) from rfl, map_pre_pre]
  simp
theorem head_drop {s : ByteArray} {i : Nat} {c : UInt8} (h : ∀ hi : i < s.size, ¬ s[i] = c) : ¬ (s.data.toList.drop i).head? = some c := by
  by_cases hi : i < s.size
  · rw [drop_at hi]; simp; exact h hi
  · rw [List.drop_of_length_le (by rw [len_eq]; omega)]; simp
theorem PInv.close {s : ByteArray} {i : Nat} {T N : List ByteArray} {now : List UInt8} (h : PInv s i T N now) (hi : i < s.size) (e : s[i] = 125) (h2 : ∀ hi : i + 1 < s.size, ¬ s[i + 1] = 125) : toks s.data.toList = none := by
  rw [h.told, drop_at hi, e, toks_close (head_drop h2)]; rfl
theorem PInv.bad {s : ByteArray} {i : Nat} {T N : List ByteArray} {now : List UInt8} (h : PInv s i T N now) (hi : i < s.size) (e : s[i] = 123) (h2 : ∀ hi : i + 1 < s.size, ¬ s[i + 1] = 123) (hc : noClose s (i + 1) s.size) : toks s.data.toList = none := by
  rw [h.told, drop_at hi, e, toks_bad' (head_drop h2) (.inl (close_none hc (by omega)))]; rfl
theorem PInv.noName {s : ByteArray} {i k : Nat} {T N : List ByteArray} {now : List UInt8} (h : PInv s i T N now) (hi : i < s.size) (e : s[i] = 123) (h2 : ∀ hi : i + 1 < s.size, ¬ s[i + 1] = 123) (hc : noClose s (i + 1) k) (h1 : i + 1 ≤ k) (hk : k < s.size) (ek : s[k] = 125) (hn : nameB (s.extract (i + 1) k).data.toList = false) : toks s.data.toList = none := by
  obtain ⟨hu, _, _⟩ := close_at hc h1 hk ek
  rw [ex_bs, bs_data] at hn
  rw [h.told, drop_at hi, e, toks_bad' (head_drop h2) (.inr (by rw [hu]; exact hn))]; rfl
theorem PInv.hole {s : ByteArray} {i k : Nat} {T N : List ByteArray} {now : List UInt8} (h : PInv s i T N now) (hi : i < s.size) (e : s[i] = 123) (h2 : ∀ hi : i + 1 < s.size, ¬ s[i + 1] = 123) (hc : noClose s (i + 1) k) (h1 : i + 1 ≤ k) (hk : k < s.size) (ek : s[k] = 125) (hn : nameB (s.extract (i + 1) k).data.toList = true) : PInv s (k + 1) (T ++ [bs now]) (N ++ [s.extract (i + 1) k]) [] := by
  obtain ⟨hu, hct, hb⟩ := close_at hc h1 hk ek
  have hx : (s.extract (i + 1) k).data.toList = seg s.data.toList (i + 1) k := by rw [ex_bs, bs_data]
  have hlen := h.len
  refine ⟨?_, by rw [List.length_append, List.length_append, h.same]; rfl, fun n hm => ?_, by rw [List.length_append]; simp; omega, fun t ht => ?_⟩
  · rw [h.told, drop_at hi, e, toks_open (head_drop h2) hct (by rw [hu, ← hx]; exact hn), hu, hb, mkT_snoc _ _ h.same,
      show (toks (s.data.toList.drop (k + 1))).map (Sum.inr (seg s.data.toList (i + 1) k) :: ·) = (toks (s.data.toList.drop (k + 1))).map ([Sum.inr (seg s.data.toList (i + 1) k)] ++ ·) from rfl, map_pre_pre, hx]
    show _ = _
    unfold chT
    rw [bs_data]
    simp
  · rw [List.mem_append, List.mem_singleton] at hm
    rcases hm with hm | rfl
    · exact h.name n hm
    · exact hn
  · rw [List.mem_append, List.mem_singleton] at ht
    rcases ht with ht | rfl
    · exact h.size t ht
    · show now.length ≤ _; omega
theorem PInv.done {s : ByteArray} {T N : List ByteArray} {now : List UInt8} (h : PInv s s.size T N now) : toks s.data.toList = some (toT (T ++ [bs now]) N) := by
  rw [h.told, drop_all, toks_nil, toT_last _ h.same]
  show some _ = _
  unfold chT
  rw [bs_data]; simp
theorem parts_ok {s : ByteArray} {T N : List ByteArray} (h : toks s.data.toList = some (toT T N)) (hl : T.length = N.length + 1) (hv : validT s.data.toList = true) (h5 : N.length ≤ 5) : formT s.data.toList = some (toT T N) :=
  formT_some hv h (by rw [toT_holes hl, List.length_map]; exact h5)
theorem parts_many {s : ByteArray} {T N : List ByteArray} (h : toks s.data.toList = some (toT T N)) (hl : T.length = N.length + 1) (h5 : ¬ N.length ≤ 5) : formT s.data.toList = none :=
  formT_many h (by rw [toT_holes hl, List.length_map]; exact h5)
end Go.Proofs.Ytadlelcckalcoaa.pl
