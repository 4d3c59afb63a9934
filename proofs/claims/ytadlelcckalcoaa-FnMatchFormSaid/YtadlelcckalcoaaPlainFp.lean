/- Plain: a form cut into pieces. -/
import Derived.Test.YtadlelcckalcoaaPkD
import Derived.Test.YtadlelcckalcoaaPkC
import Derived.Lib.IndexAny
import Derived.Lib.IndexMore
namespace Go.Proofs.Ytadlelcckalcoaa.pl
set_option maxRecDepth 100000
set_option linter.unusedVariables false

theorem indexAny_br : ∀ l : List UInt8, (Lib.indexAny l [123, 125] = -1 ∧ ∀ c ∈ l, isBr c = false) ∨ ∃ p c r, l = p ++ c :: r ∧ Lib.indexAny l [123, 125] = p.length ∧ (∀ x ∈ p, isBr x = false) ∧ isBr c = true
  | [] => .inl ⟨rfl, fun c h => by cases h⟩
  | b :: l => by
    have e : ([123, 125] : List UInt8).contains b = isBr b := by
      unfold isBr
      rw [List.contains_cons, List.contains_cons, List.contains_nil, Bool.or_false]
    cases hb : isBr b with
    | true =>
      refine .inr ⟨[], b, l, rfl, ?_, (fun x h => by cases h), hb⟩
      unfold Lib.indexAny; rw [e, hb]; rfl
    | false =>
      rcases indexAny_br l with ⟨h1, h2⟩ | ⟨p, c, r, h1, h2, h3, h4⟩
      · refine .inl ⟨?_, fun c hc => ?_⟩
        · unfold Lib.indexAny; rw [e, hb, h1]; rfl
        · rcases List.mem_cons.1 hc with rfl | hc
          · exact hb
          · exact h2 c hc
      · refine .inr ⟨b :: p, c, r, by rw [h1]; rfl, ?_, fun x hx => ?_, h4⟩
        · unfold Lib.indexAny
          rw [e, hb, h2]
          have : ((p.length : Int) == -1) = false := beq_eq_false_iff_ne.2 (by omega)
          rw [this]; simp
        · rcases List.mem_cons.1 hx with rfl | hx
          · exact hb
          · exact h3 x hx
theorem index_close : ∀ l : List UInt8, (l.contains 125 = false → Lib.index l [125] = -1) ∧ (l.contains 125 = true → Lib.index l [125] = (upTo l).length)
  | [] => ⟨fun _ => rfl, fun h => by cases h⟩
  | b :: l => by
    obtain ⟨h1, h2⟩ := index_close l
    by_cases e : b = 125
    · subst e
      refine ⟨fun h => by simp at h, fun _ => ?_⟩
      unfold Lib.index; simp [upTo]
    · have e2 : ([125] : List UInt8).isPrefixOf (b :: l) = false := by simp [List.isPrefixOf]; exact fun x => e x.symm
      have e3 : (b :: l).contains 125 = l.contains 125 := by
        rw [List.contains_cons, show ((125 : UInt8) == b) = false from beq_eq_false_iff_ne.2 (fun x => e x.symm), Bool.false_or]
      have e4 : upTo (b :: l) = b :: upTo l := by unfold upTo; rw [List.takeWhile_cons, if_pos (by simp [e])]
      rw [e3, e4]
      unfold Lib.index
      rw [e2]
      refine ⟨fun h => by rw [h1 h]; rfl, fun h => ?_⟩
      rw [h2 h]
      have : (((upTo l).length : Int) == -1) = false := beq_eq_false_iff_ne.2 (by omega)
      rw [this]; simp
theorem cut_yes {l : List UInt8} (h : l.contains 125 = true) : Lib.cut l [125] = (upTo l, behind l, true) := by
  have e := (index_close l).2 h
  have hc := cut_at h
  have key : ∀ (a b m : List UInt8), m = a ++ 125 :: b → m.take a.length = a ∧ m.drop (a.length + 1) = b := by
    intro a b m hm
    subst hm
    refine ⟨List.take_left, ?_⟩
    rw [List.drop_append, List.drop_of_length_le (by omega)]
    simp
  obtain ⟨h1, h2⟩ := key _ _ l hc
  unfold Lib.cut
  rw [if_pos (by rw [e]; omega), e]
  simp [h1, h2]
theorem cut_no {l : List UInt8} (h : l.contains 125 = false) : Lib.cut l [125] = (l, [], false) := by
  have e := (index_close l).1 h
  unfold Lib.cut
  rw [if_neg (by rw [e]; omega)]

/-- what a piece stands for -/
def tokP (n p : ByteArray) : List Tok := if n.size = 0 then p.data.toList.map Sum.inl else [Sum.inr n.data.toList]
theorem tokP_plain (p : ByteArray) {n : ByteArray} (h : n.size = 0) : tokP n p = p.data.toList.map Sum.inl := by simp [tokP, h]
theorem tokP_hole (p : ByteArray) {n : ByteArray} (h : ¬ n.size = 0) : tokP n p = [Sum.inr n.data.toList] := by simp [tokP, h]
structure CutOk (s n p r : ByteArray) : Prop where
  told : toks s.data.toList = (toks r.data.toList).map (tokP n p ++ ·)
  less : r.size < s.size
  suf : ∀ c ∈ r.data.toList, c ∈ s.data.toList
  name : n.size = 0 ∨ nameB n.data.toList = true
  size : n.size ≤ 8 ∧ p.size ≤ s.size
theorem empty0 : (ByteArray.mk #[]).size = 0 := rfl
theorem cut_all {s : ByteArray} (h0 : ¬ s.size = 0) (h : ∀ c ∈ s.data.toList, isBr c = false) : CutOk s ⟨#[]⟩ s ⟨#[]⟩ := by
  refine ⟨?_, by show 0 < s.size; omega, (fun c hc => by cases hc), .inl rfl, ⟨by show 0 ≤ 8; omega, Nat.le_refl _⟩⟩
  have := toks_run (p := s.data.toList) (r := []) h
  rw [List.append_nil] at this
  rw [this, tokP_plain s rfl]
theorem cut_run {s : ByteArray} {p r : List UInt8} {c : UInt8} (h : s.data.toList = p ++ c :: r) (h0 : 0 < p.length) (hp : ∀ x ∈ p, isBr x = false) : CutOk s ⟨#[]⟩ (s.extract 0 p.length) (s.extract p.length s.size) := by
  have hl : s.size = p.length + (r.length + 1) := by rw [← len_eq, h]; simp
  have e1 : (s.extract 0 p.length).data.toList = p := by rw [Lib.extract_data, h]; simp
  have e2 : (s.extract p.length s.size).data.toList = c :: r := by
    rw [Lib.extract_data, ← len_eq, h]; simp
  refine ⟨?_, by rw [ByteArray.size_extract]; omega, fun x hx => ?_, .inl rfl, ⟨by show 0 ≤ 8; omega, by rw [ByteArray.size_extract]; omega⟩⟩
  · rw [h, toks_run hp, tokP_plain _ rfl, e1, e2]
  · rw [e2] at hx; rw [h]; exact List.mem_append_right _ hx
theorem cut_two {s : ByteArray} {c : UInt8} {r : List UInt8} (h : s.data.toList = c :: c :: r) (hb : isBr c = true) : CutOk s ⟨#[]⟩ (s.extract 0 1) (s.extract 2 s.size) := by
  have hl : s.size = r.length + 2 := by rw [← len_eq, h]; simp
  have e1 : (s.extract 0 1).data.toList = [c] := by rw [Lib.extract_data, h]; simp
  have e2 : (s.extract 2 s.size).data.toList = r := by rw [Lib.extract_data, ← len_eq, h]; simp
  refine ⟨?_, by rw [ByteArray.size_extract]; omega, fun x hx => ?_, .inl rfl, ⟨by show 0 ≤ 8; omega, by rw [ByteArray.size_extract]; omega⟩⟩
  · rw [h, toks_twice hb, tokP_plain _ rfl, e1, e2]; rfl
  · rw [e2] at hx; rw [h]; exact List.mem_cons_of_mem _ (List.mem_cons_of_mem _ hx)
theorem cut_hole {s : ByteArray} {r : List UInt8} (h : s.data.toList = 123 :: r) (hh : ¬ r.head? = some 123) (h1 : r.contains 125 = true) (h2 : nameB (upTo r) = true) : CutOk s (bs (upTo r)) ⟨#[]⟩ (bs (behind r)) := by
  have hl : s.size = r.length + 1 := by rw [← len_eq, h]; simp
  have hn := nameB_parts h2
  have hc := cut_at h1
  refine ⟨?_, ?_, fun x hx => ?_, .inr h2, ⟨hn.2.1, by show 0 ≤ s.size; omega⟩⟩
  · rw [h, toks_open hh h1 h2, tokP_hole _ (by show ¬ (upTo r).length = 0; omega)]; rfl
  · show (behind r).length < _
    have := behind_len r; omega
  · rw [h]
    refine List.mem_cons_of_mem _ ?_
    have hx' : x ∈ behind r := hx
    rw [hc]
    exact List.mem_append_right _ (List.mem_cons_of_mem _ hx')
theorem toks_bad' {r : List UInt8} (h : ¬ r.head? = some 123) (h2 : r.contains 125 = false ∨ nameB (upTo r) = false) : toks (123 :: r) = none := by
  refine toks_bad h (fun ⟨x, y⟩ => ?_)
  rcases h2 with h2 | h2
  · rw [h2] at x; cases x
  · rw [h2] at y; cases y
theorem nameB_def (n : List UInt8) : nameB n = (inR n.length 1 8 && n.all nameC) := by
  unfold nameB inR
  congr 1
  rw [Bool.eq_iff_iff]
  simp only [Bool.and_eq_true, decide_eq_true_eq]
  omega
/-- all of the first k bytes are letters -/
def nameTo (s : ByteArray) (k : Nat) : Prop := ∀ i (h : i < s.size), i < k → nameC s[i] = true
theorem nameTo_zero (s : ByteArray) : nameTo s 0 := fun _ _ h => absurd h (by omega)
theorem nameTo_succ {s : ByteArray} {k : Nat} (h : nameTo s k) (hk : k < s.size) (hc : nameC s[k] = true) : nameTo s (k + 1) := by
  intro i hi hlt
  by_cases e : i = k
  · subst e; exact hc
  · exact h i hi (by omega)
theorem nameB_all {s : ByteArray} (h : nameTo s s.size) : nameB s.data.toList = inR s.size 1 8 := by
  rw [nameB_def, len_eq]
  have : s.data.toList.all nameC = true := by
    rw [List.all_eq_true]
    intro c hc
    obtain ⟨i, hi, rfl⟩ := List.getElem_of_mem hc
    exact h i (by simpa using hi) (by simpa using hi)
  rw [this, Bool.and_true]
theorem nameB_bad {s : ByteArray} {k : Nat} (hk : k < s.size) (hc : nameC s[k] = false) : nameB s.data.toList = false := by
  rw [nameB_def]
  have : s.data.toList.all nameC = false := by
    rw [List.all_eq_false]
    exact ⟨s[k], by
      have : s[k] = s.data.toList[k]'(by simpa using hk) := rfl
      rw [this]; exact List.getElem_mem _, by simp [hc]⟩
  rw [this, Bool.and_false]
theorem nameB_size {s : ByteArray} (h : s.size = 0 ∨ 8 < s.size) : nameB s.data.toList = false := by
  rw [nameB_def, len_eq, inR_false (by omega)]; rfl
theorem inR_name (c : UInt8) : inR (c.toNat : Int) 97 122 = nameC c := by
  unfold inR nameC
  congr 1 <;> (apply decide_eq_decide.2; omega)
theorem head_of {s : ByteArray} {c : UInt8} {r : List UInt8} (h : s.data.toList = c :: r) : ∃ h0 : 0 < s.size, s[0] = c ∧ (s.extract 1 s.size).data.toList = r ∧ (s.extract 0 1).data.toList = [c] ∧ s.size = r.length + 1 := by
  have hl : s.size = r.length + 1 := by rw [← len_eq, h]; simp
  refine ⟨by omega, ?_, by rw [Lib.extract_data, ← len_eq, h]; simp, by rw [Lib.extract_data, h]; simp, hl⟩
  show s.data.toList[0]'(by rw [len_eq]; omega) = c
  simp only [h]; rfl
theorem pre_one (r : List UInt8) (c : UInt8) : Lib.hasPrefix r [c] = decide (r.head? = some c) := by
  cases r with
  | nil => rfl
  | cons d r => simp [Lib.hasPrefix, List.isPrefixOf]; exact decide_eq_decide.2 ⟨fun h => h.symm, fun h => h.symm⟩
end Go.Proofs.Ytadlelcckalcoaa.pl
