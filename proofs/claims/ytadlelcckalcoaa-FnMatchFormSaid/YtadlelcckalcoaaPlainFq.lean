/- Plain: rows of pieces. -/
import Derived.Test.YtadlelcckalcoaaPlainFp
import Derived.Test.YtadlelcckalcoaaPkD
namespace Go.Proofs.Ytadlelcckalcoaa.pl
set_option maxRecDepth 100000
set_option linter.unusedVariables false

/-- pieces: names and plain bytes -/
abbrev Pc := ByteArray × ByteArray
def nthQ (ps : List Pc) (i : Nat) : Pc := ps.getD i (⟨#[]⟩, ⟨#[]⟩)
theorem nthQ_eq {ps : List Pc} {i : Nat} (h : i < ps.length) : nthQ ps i = ps[i] := by simp [nthQ, h]
theorem nthQ_mem {ps : List Pc} {i : Nat} (h : i < ps.length) : nthQ ps i ∈ ps := by rw [nthQ_eq h]; exact List.getElem_mem _
def flatP (ps : List Pc) : List Tok := ps.flatMap (fun p => tokP p.1 p.2)
theorem flatP_snoc (ps : List Pc) (p : Pc) : flatP (ps ++ [p]) = flatP ps ++ tokP p.1 p.2 := by unfold flatP; simp
theorem flatP_cons (p : Pc) (ps : List Pc) : flatP (p :: ps) = tokP p.1 p.2 ++ flatP ps := by unfold flatP; simp
def flatTo (ps : List Pc) (k : Nat) : List Tok := flatP (ps.take k)
theorem flatTo_zero (ps : List Pc) : flatTo ps 0 = [] := rfl
theorem flatTo_succ {ps : List Pc} {k : Nat} (h : k < ps.length) : flatTo ps (k + 1) = flatTo ps k ++ tokP (nthQ ps k).1 (nthQ ps k).2 := by
  unfold flatTo
  rw [List.take_succ_eq_append_getElem h, flatP_snoc, ← nthQ_eq h]
theorem flatTo_all (ps : List Pc) : flatTo ps ps.length = flatP ps := by unfold flatTo; rw [List.take_length]
def holesN (ps : List Pc) (k : Nat) : Nat := (holesT (flatTo ps k)).length
theorem holesN_hole {ps : List Pc} {k : Nat} (h : k < ps.length) (hn : ¬ (nthQ ps k).1.size = 0) : holesN ps (k + 1) = holesN ps k + 1 := by
  unfold holesN; rw [flatTo_succ h, holesT_append, tokP_hole _ hn, holesT_hole]; simp
theorem holesN_plain {ps : List Pc} {k : Nat} (h : k < ps.length) (hn : (nthQ ps k).1.size = 0) : holesN ps (k + 1) = holesN ps k := by
  unfold holesN; rw [flatTo_succ h, holesT_append, tokP_plain _ hn, holesT_bytes]; simp
theorem holesN_le {ps : List Pc} : ∀ {k : Nat}, k ≤ ps.length → holesN ps k ≤ k
  | 0, _ => by unfold holesN; rw [flatTo_zero]; exact Nat.le_refl _
  | k + 1, h => by
    have ih := holesN_le (ps := ps) (k := k) (by omega)
    by_cases hn : (nthQ ps k).1.size = 0
    · rw [holesN_plain (by omega) hn]; omega
    · rw [holesN_hole (by omega) hn]; omega
/-- the names so far, each once -/
def namesTo (ps : List Pc) (k : Nat) : List Nm := ded [] (holesT (flatTo ps k))
theorem namesTo_zero (ps : List Pc) : namesTo ps 0 = [] := rfl
theorem namesTo_plain {ps : List Pc} {k : Nat} (h : k < ps.length) (hn : (nthQ ps k).1.size = 0) : namesTo ps (k + 1) = namesTo ps k := by
  unfold namesTo; rw [flatTo_succ h, holesT_append, tokP_plain _ hn, holesT_bytes, List.append_nil]
theorem namesTo_old {ps : List Pc} {k : Nat} (h : k < ps.length) (hn : ¬ (nthQ ps k).1.size = 0) (hm : (nthQ ps k).1.data.toList ∈ namesTo ps k) : namesTo ps (k + 1) = namesTo ps k := by
  unfold namesTo at hm ⊢
  rw [flatTo_succ h, holesT_append, tokP_hole _ hn, holesT_hole, ded_append, ded_one_in hm]
theorem namesTo_new {ps : List Pc} {k : Nat} (h : k < ps.length) (hn : ¬ (nthQ ps k).1.size = 0) (hm : ¬ (nthQ ps k).1.data.toList ∈ namesTo ps k) : namesTo ps (k + 1) = namesTo ps k ++ [(nthQ ps k).1.data.toList] := by
  unfold namesTo at hm ⊢
  rw [flatTo_succ h, holesT_append, tokP_hole _ hn, holesT_hole, ded_append, ded_one_new hm]
theorem namesTo_all (ps : List Pc) : namesTo ps ps.length = holesD (flatP ps) := by unfold namesTo holesD; rw [flatTo_all]
theorem namesTo_len {ps : List Pc} {k : Nat} (h : k ≤ ps.length) : (namesTo ps k).length ≤ k := by
  have h1 := ded_len (holesT (flatTo ps k)) []
  have h2 := holesN_le h
  unfold holesN at h2
  unfold namesTo
  simp at h1
  omega
theorem mem_bs {l : List Nm} {x : ByteArray} : x ∈ l.map bs ↔ x.data.toList ∈ l := by
  rw [List.mem_map]
  constructor
  · rintro ⟨a, ha, rfl⟩; exact ha
  · intro h; exact ⟨_, h, bs_self x⟩
/-- pieces as they are read: names are names, and no more bytes than a text has -/
structure PcsOk (ps : List Pc) : Prop where
  name : ∀ p ∈ ps, p.1.size = 0 ∨ nameB p.1.data.toList = true
  size : ∀ p ∈ ps, p.1.size ≤ 8 ∧ p.2.size ≤ 120
theorem PcsOk.nil : PcsOk [] := ⟨(fun p h => by cases h), (fun p h => by cases h)⟩
theorem PcsOk.push {ps : List Pc} {s n p r : ByteArray} (h : PcsOk ps) (hc : CutOk s n p r) (hs : s.size ≤ 120) : PcsOk (ps ++ [(n, p)]) := by
  refine ⟨fun q hq => ?_, fun q hq => ?_⟩
  · rw [List.mem_append, List.mem_singleton] at hq
    rcases hq with hq | rfl
    · exact h.name q hq
    · exact hc.name
  · rw [List.mem_append, List.mem_singleton] at hq
    rcases hq with hq | rfl
    · exact h.size q hq
    · exact ⟨hc.size.1, Nat.le_trans hc.size.2 hs⟩
/-- pieces read so far, and the rest -/
structure Reads (s r : ByteArray) (ps : List Pc) : Prop where
  told : toks s.data.toList = (toks r.data.toList).map (flatP ps ++ ·)
  valid : validT r.data.toList = true
  ok : PcsOk ps
  len : ps.length + r.size ≤ s.size
theorem Reads.start {s : ByteArray} (h : validT s.data.toList = true) : Reads s s [] := ⟨by rw [show flatP [] = [] from rfl, map_pre_nil], h, PcsOk.nil, by simp⟩
theorem Reads.next {s r n p t : ByteArray} {ps : List Pc} (h : Reads s r ps) (hc : CutOk r n p t) : Reads s t (ps ++ [(n, p)]) := by
  have h120 := validT_size h.valid
  refine ⟨by rw [h.told, hc.told, map_pre_pre, flatP_snoc], ?_, h.ok.push hc h120, by rw [List.length_append, List.length_singleton]; have := h.len; have := hc.less; omega⟩
  have hv := h.valid
  unfold validT at hv ⊢
  rw [Bool.and_eq_true] at hv ⊢
  refine ⟨List.all_eq_true.2 (fun c hcm => List.all_eq_true.1 hv.1 c (hc.suf c hcm)), decide_eq_true ?_⟩
  rw [len_eq]; have := hc.less; omega
theorem Reads.fail {s r : ByteArray} {ps : List Pc} (h : Reads s r ps) (hc : toks r.data.toList = none) : formT s.data.toList = none := by
  refine formT_none ?_
  rw [h.told, hc]; rfl
theorem Reads.done {s r : ByteArray} {ps : List Pc} (h : Reads s r ps) (h0 : r.size = 0) : toks s.data.toList = some (flatP ps) := by
  have e : r.data.toList = [] := List.length_eq_zero_iff.1 (by rw [len_eq]; exact h0)
  rw [h.told, e, toks_nil]; simp
end Go.Proofs.Ytadlelcckalcoaa.pl
