/- Joined texts: Strs PlainM PlainJ PlainV PlainF PlainG PlainNp PlainTb PlainL PlainQ. -/
import Derived.Test.YtadlelcckalcoaaRows
import Derived.WalkKit
import Derived.WalkSpells
import Derived.Test.YtadlelcckalcoaaPkA
import Derived.Lib.Join
/- Slices of strings that a call made itself ('OStrs') and slices of strings that can be read ('RStrs'). -/
namespace Go.Proofs.Ytadlelcckalcoaa
open Go.RowKit

theorem infoS : (Try.prog.info? 9).map (fun i => (i.zero, i.size, i.bytes)) = some (some (.string ByteArray.empty), 1, 16) := by kernel_rfl

/-- v is a slice of strings of the call's own, made in blocks from B on, and holds l -/
def OStrs (B : Nat) (w : World) (v : Value) (l : List ByteArray) : Prop := w.ownsRow B 9 1 v l.length (l.map Value.string)

theorem OStrs.nil (B : Nat) (w : World) : OStrs B w (.slice none 0 0) [] := World.ownsRow_nil _ _ _ _
theorem OStrs.alloc {B : Nat} {w : World} {v : Value} {l : List ByteArray} (h : OStrs B w v l) (o : Obj) : OStrs B (w.alloc o) v l := World.ownsRow.alloc h o
theorem OStrs.below {B C : Nat} {w w' : World} {v : Value} {l : List ByteArray} (h : OStrs B w v l) (hC : w.heap.size ≤ C) (hb : Below C w w') : OStrs B w' v l := by
  refine ⟨h.1, ?_⟩
  rcases h.2 with hn | ⟨g, cap, cur, rfl, hB, hg, rest⟩
  · exact .inl hn
  · refine .inr ⟨g, cap, cur, rfl, hB, ?_, rest⟩
    rw [hb.block g (by have := (Array.getElem?_eq_some_iff.1 hg).1; omega)]
    exact hg
theorem OStrs.mono {B B' : Nat} {w : World} {v : Value} {l : List ByteArray} (h : OStrs B w v l) (hB : B' ≤ B) : OStrs B' w v l := by
  refine ⟨h.1, ?_⟩
  rcases h.2 with hn | ⟨g, cap, cur, rfl, hg, rest⟩
  · exact .inl hn
  · exact .inr ⟨g, cap, cur, rfl, by omega, rest⟩

/-- element i of a list of strings -/
def nth (l : List ByteArray) (i : Nat) : ByteArray := l.getD i ByteArray.empty
theorem nth_eq {l : List ByteArray} {i : Nat} (h : i < l.length) : nth l i = l[i] := by simp [nth, h]
theorem nth_ext {a b : List ByteArray} (hl : a.length = b.length) (h : ∀ i, i < a.length → nth a i = nth b i) : a = b := by
  apply List.ext_getElem hl
  intro i h1 h2
  rw [← nth_eq h1, ← nth_eq h2]
  exact h i h1

/-- v is a slice of strings that reads as l -/
def RStrs (w : World) (v : Value) (l : List ByteArray) : Prop :=
  (l = [] ∧ ∃ a cap, v = .slice a 0 cap) ∨ (0 < l.length ∧ ∃ b off cap, v = .slice (some ⟨b, off, none⟩) l.length cap ∧ b < w.heap.size ∧ ∀ i, i < l.length → w.cell? ⟨b, off + i, none⟩ = some (.string (nth l i)))

theorem OStrs.reads {B : Nat} {w : World} {v : Value} {l : List ByteArray} (h : OStrs B w v l) : RStrs w v l := by
  have hw := h
  rcases h.2 with ⟨hv, hn⟩ | ⟨g, cap, cur, hv, hB, hg, hle, hm, hs, htake⟩
  · exact .inl ⟨List.length_eq_zero_iff.1 hn, none, 0, hv⟩
  · cases l with
    | nil => exact .inl ⟨rfl, _, _, hv⟩
    | cons x r =>
      refine .inr ⟨by simp, g, 0, cap, hv, (Array.getElem?_eq_some_iff.1 hg).1, fun i hi => ?_⟩
      subst hv
      have := World.ownsRow.cellAt hw i (by omega)
      rw [Nat.zero_add, this, nth_eq hi, List.getElem?_map, List.getElem?_eq_getElem hi]
      rfl

theorem RStrs.below {C : Nat} {w w' : World} {v : Value} {l : List ByteArray} (h : RStrs w v l) (hC : w.heap.size ≤ C) (hb : Below C w w') : RStrs w' v l := by
  rcases h with h | ⟨hp, b, off, cap, hv, hlt, hc⟩
  · exact .inl h
  · exact .inr ⟨hp, b, off, cap, hv, Nat.lt_of_lt_of_le hlt hb.size, fun i hi => by rw [hb.cell (by show b < C; omega)]; exact hc i hi⟩
theorem RStrs.slice {w : World} {v : Value} {l : List ByteArray} (h : RStrs w v l) : ∃ a cap, v = .slice a l.length cap := by
  rcases h with ⟨hl, a, cap, hv⟩ | ⟨_, b, off, cap, hv, _⟩
  · exact ⟨a, cap, by rw [hv, hl]; rfl⟩
  · exact ⟨_, cap, hv⟩
theorem OStrs.push1 {B : Nat} {w' : World} {v' : Value} {l : List ByteArray} {x : ByteArray} (h : w'.ownsRow B 9 1 v' (l.length + 1) (l.map Value.string ++ [.string x])) : OStrs B w' v' (l ++ [x]) := by
  unfold OStrs
  simpa using h
end Go.Proofs.Ytadlelcckalcoaa

/- Plain mathematics: lines and their margins. -/
namespace Go.Proofs.Ytadlelcckalcoaa.pl

def ld (s : ByteArray) : Nat := leadL s.data.toList
theorem ld_le (s : ByteArray) : ld s ≤ s.size := by have := leadL_le s.data.toList; rw [len_eq] at this; exact this
theorem leadL_sp {l : List UInt8} {k : Nat} (h : l[k]? = some 32) : leadL (l.drop k) = leadL (l.drop (k + 1)) + 1 := by
  obtain ⟨hk, e⟩ := List.getElem?_eq_some_iff.1 h
  rw [List.drop_eq_getElem_cons hk, e]; rfl
theorem leadL_no {l : List UInt8} {k : Nat} (h : ¬ l[k]? = some 32) : leadL (l.drop k) = 0 := by
  by_cases hk : k < l.length
  · rw [List.drop_eq_getElem_cons hk]
    unfold leadL
    rw [if_neg]
    intro e; exact h (by rw [List.getElem?_eq_getElem hk, e])
  · rw [List.drop_of_length_le (by omega)]; rfl
/-- where the spaces ahead end -/
theorem ld_at {s : ByteArray} {k : Nat} (h : leadL (s.data.toList.drop k) + k = ld s) (hk : k < s.size) (e : ¬ s[k] = 32) : ld s = k := by
  rw [leadL_no (by rw [get_some hk]; intro x; exact e (Option.some.inj x))] at h; omega
theorem ld_next {s : ByteArray} {k : Nat} (h : leadL (s.data.toList.drop k) + k = ld s) (hk : k < s.size) (e : s[k] = 32) : leadL (s.data.toList.drop (k + 1)) + (k + 1) = ld s := by
  rw [leadL_sp (by rw [get_some hk, e])] at h; omega
theorem ld_end {s : ByteArray} (h : leadL (s.data.toList.drop s.size) + s.size = ld s) : ld s = s.size := by
  rw [drop_all] at h; simp [leadL] at h; omega
theorem drop_bs_get {s t : ByteArray} {k : Nat} (ht : t = bs (s.data.toList.drop k)) (h0 : 0 < t.size) (hk : k < s.size) : t[0] = s[k] := by
  have h1 : t.data.toList[0]? = some t[0] := get_some h0
  have e : t.data.toList = s.data.toList.drop k := by rw [ht]; rfl
  rw [e, List.getElem?_drop, Nat.add_zero, get_some hk] at h1
  exact (Option.some.inj h1).symm
theorem drop_size {s : ByteArray} {k : Nat} : (bs (s.data.toList.drop k)).size = s.size - k := by rw [bs_size, List.length_drop, len_eq]
theorem drop_zero (s : ByteArray) : bs (s.data.toList.drop 0) = s := bs_self s
theorem drop_tail {s t : ByteArray} {k : Nat} (ht : t = bs (s.data.toList.drop k)) : t.extract 1 t.size = bs (s.data.toList.drop (k + 1)) := by
  apply ba_ext
  have e : t.data.toList = s.data.toList.drop k := by rw [ht]; rfl
  rw [Lib.extract_data, e, bs_data, List.drop_drop, List.take_of_length_le]
  rw [ht, drop_size, List.length_drop, len_eq]; omega
/-- a line without the spaces ahead -/
def ltrim (s : ByteArray) : ByteArray := bs (s.data.toList.drop (ld s))
theorem ltrim_zero {s : ByteArray} (h : s.size = 0) : ltrim s = s := by
  have := ld_le s
  have e : ld s = 0 := by omega
  rw [ltrim, e]; exact drop_zero s
theorem ltrim_size (s : ByteArray) : (ltrim s).size = s.size - ld s := drop_size

/-- lines -/
def validLs (ls : List ByteArray) : Bool := ls.all (fun s => validT s.data.toList) && decide (ls.length ≤ 20)
def okTo (ls : List ByteArray) (k : Nat) : Prop := ∀ i, i < k → validT (nth ls i).data.toList = true
theorem okTo_zero (ls : List ByteArray) : okTo ls 0 := fun _ h => absurd h (by omega)
theorem okTo_succ {ls : List ByteArray} {k : Nat} (h : okTo ls k) (e : validT (nth ls k).data.toList = true) : okTo ls (k + 1) := by
  intro i hi
  by_cases e2 : i = k
  · subst e2; exact e
  · exact h i (by omega)
theorem validLs_all {ls : List ByteArray} (h : okTo ls ls.length) : validLs ls = decide (ls.length ≤ 20) := by
  unfold validLs
  have : ls.all (fun s => validT s.data.toList) = true := by
    rw [List.all_eq_true]; intro x hx
    obtain ⟨i, hi, rfl⟩ := List.getElem_of_mem hx
    have := h i hi
    rw [nth_eq hi] at this; exact this
  rw [this]; rfl
theorem validLs_bad {ls : List ByteArray} {k : Nat} (hk : k < ls.length) (e : validT (nth ls k).data.toList = false) : validLs ls = false := by
  unfold validLs
  have : ls.all (fun s => validT s.data.toList) = false := by
    rw [List.all_eq_false]
    refine ⟨nth ls k, by rw [nth_eq hk]; exact List.getElem_mem _, by simp [e]⟩
  rw [this]; rfl
theorem validLs_long {ls : List ByteArray} (h : 20 < ls.length) : validLs ls = false := by
  unfold validLs; rw [decide_eq_false (p := ls.length ≤ 20) (by omega)]; simp
theorem validLs_len {ls : List ByteArray} (h : validLs ls = true) : ls.length ≤ 20 := by
  unfold validLs at h; simp only [Bool.and_eq_true, decide_eq_true_eq] at h; exact h.2
theorem validLs_nth {ls : List ByteArray} (h : validLs ls = true) {i : Nat} (hi : i < ls.length) : validT (nth ls i).data.toList = true := by
  unfold validLs at h; simp only [Bool.and_eq_true, List.all_eq_true] at h
  rw [nth_eq hi]; exact h.1 _ (List.getElem_mem hi)

/-- the least lead so far, -1 for none -/
def stepM (o : Int) (s : ByteArray) : Int := if ld s < s.size ∧ (o < 0 ∨ (ld s : Int) < o) then (ld s : Int) else o
def mTo (ls : List ByteArray) (k : Nat) : Int := (ls.take k).foldl stepM (-1)
theorem mTo_zero (ls : List ByteArray) : mTo ls 0 = -1 := rfl
theorem mTo_succ {ls : List ByteArray} {k : Nat} (h : k < ls.length) : mTo ls (k + 1) = stepM (mTo ls k) (nth ls k) := by
  unfold mTo
  rw [List.take_succ_eq_append_getElem h, List.foldl_append, nth_eq h]; rfl
def marginL (ls : List ByteArray) : Int := max (mTo ls ls.length) 0
theorem stepM_yes {o : Int} {s : ByteArray} (h1 : ld s < s.size) (h2 : o < 0 ∨ (ld s : Int) < o) : stepM o s = ld s := by unfold stepM; rw [if_pos ⟨h1, h2⟩]
theorem stepM_no {o : Int} {s : ByteArray} (h : s.size ≤ ld s ∨ (0 ≤ o ∧ o ≤ ld s)) : stepM o s = o := by
  unfold stepM; rw [if_neg]; rintro ⟨h1, h2⟩
  rcases h with h | ⟨h, h'⟩
  · omega
  · rcases h2 with h2 | h2 <;> omega
theorem mTo_bd {ls : List ByteArray} (h : ∀ i, i < ls.length → (nth ls i).size ≤ 1048576) : ∀ k, k ≤ ls.length → -1 ≤ mTo ls k ∧ mTo ls k ≤ 1048576
  | 0, _ => by rw [mTo_zero]; omega
  | k + 1, hk => by
    rw [mTo_succ (by omega)]
    have h1 := mTo_bd h k (by omega)
    have h2 := h k (by omega)
    have h3 := ld_le (nth ls k)
    unfold stepM; split <;> omega
/-- MarginOf -/
def marginB (ls : List ByteArray) : Int := if validLs ls = true then marginL ls else -1
theorem marginB_ok {ls : List ByteArray} (h : validLs ls = true) : marginB ls = marginL ls := by simp [marginB, h]
theorem marginB_no {ls : List ByteArray} (h : validLs ls = false) : marginB ls = -1 := by simp [marginB, h]
theorem validLs_size {l : List ByteArray} (h : validLs l = true) : ∀ i, i < l.length → (nth l i).size ≤ 120 := fun _ hi => validT_size (validLs_nth h hi)
end Go.Proofs.Ytadlelcckalcoaa.pl

/- Plain mathematics: texts joined. -/
namespace Go.Proofs.Ytadlelcckalcoaa.pl

def toL (l : List ByteArray) : List (List UInt8) := l.map (·.data.toList)
def joinB (l : List ByteArray) (mid : ByteArray) : ByteArray := bs (Lib.join (toL l) mid.data.toList)
/-- the first k ones joined -/
def jn (l : List ByteArray) (mid : ByteArray) (k : Nat) : ByteArray := joinB (l.take k) mid
theorem jn_zero (l : List ByteArray) (mid : ByteArray) : jn l mid 0 = bs [] := by simp [jn, joinB, toL, Lib.join_nil]
theorem jn_all (l : List ByteArray) (mid : ByteArray) : jn l mid l.length = joinB l mid := by simp [jn]
theorem bs_append (a b : List UInt8) : bs (a ++ b) = bs a ++ bs b := (ByteArray.mk_append_mk a b).symm
theorem jn_one {l : List ByteArray} (mid : ByteArray) (h : 0 < l.length) : jn l mid 1 = nth l 0 := by
  cases l with
  | nil => simp at h
  | cons x r => simp only [jn, joinB, toL, List.take_succ_cons, List.take_zero, List.map_cons, List.map_nil, Lib.join_one]; exact bs_self x
theorem jn_succ {l : List ByteArray} (mid : ByteArray) {k : Nat} (h0 : 0 < k) (h : k < l.length) : jn l mid (k + 1) = jn l mid k ++ mid ++ nth l k := by
  cases l with
  | nil => simp at h
  | cons x r =>
    obtain ⟨j, rfl⟩ : ∃ j, k = j + 1 := ⟨k - 1, by omega⟩
    have hj : j < r.length := by simpa using h
    have e : (toL r)[j]? = some (nth (x :: r) (j + 1)).data.toList := by
      rw [nth_eq h]
      simp [toL, hj]
    have hmap : ∀ i, toL (r.take i) = (toL r).take i := fun i => by simp [toL, List.map_take]
    unfold jn joinB
    rw [List.take_succ_cons, List.take_succ_cons, show toL (x :: r.take (j + 1)) = x.data.toList :: toL (r.take (j + 1)) from rfl, show toL (x :: r.take j) = x.data.toList :: toL (r.take j) from rfl,
      Lib.join_cons, Lib.join_cons, hmap, hmap, Lib.joinTail_take_succ _ _ _ _ e]
    rw [← List.append_assoc, ← List.append_assoc, bs_append, bs_append, bs_self, bs_self]
theorem nil_app (x : ByteArray) : bs [] ++ x = x := by
  rw [← bs_self x, ← bs_append]; rfl
theorem jn_step_le (l : List ByteArray) (mid : ByteArray) (k : Nat) : (jn l mid k).size ≤ (jn l mid (k + 1)).size := by
  by_cases h : k < l.length
  · by_cases h0 : 0 < k
    · rw [jn_succ mid h0 h, ByteArray.size_append, ByteArray.size_append]; omega
    · obtain rfl : k = 0 := by omega
      rw [jn_zero]; simp [bs_size]
  · have e1 : l.take k = l := List.take_of_length_le (by omega)
    have e2 : l.take (k + 1) = l := List.take_of_length_le (by omega)
    unfold jn; rw [e1, e2]; exact Nat.le_refl _
theorem jn_le (l : List ByteArray) (mid : ByteArray) : ∀ d k, (jn l mid k).size ≤ (jn l mid (k + d)).size
  | 0, _ => Nat.le_refl _
  | d + 1, k => Nat.le_trans (jn_le l mid d k) (jn_step_le l mid (k + d))
theorem jn_le_all {l : List ByteArray} (mid : ByteArray) {k : Nat} (h : k ≤ l.length) : (jn l mid k).size ≤ (joinB l mid).size := by
  have := jn_le l mid (l.length - k) k
  rw [show k + (l.length - k) = l.length from by omega, jn_all] at this
  exact this
end Go.Proofs.Ytadlelcckalcoaa.pl

/- Plain mathematics: lists of words. -/
namespace Go.Proofs.Ytadlelcckalcoaa.pl

def wb (c : UInt8) : Bool := decide (33 ≤ c.toNat) && decide (c.toNat ≤ 126)
def wordOK (x : ByteArray) : Bool := inR x.size 1 12 && x.data.toList.all wb
def vWords (l : List ByteArray) : Bool := l.all wordOK && decide (l.length ≤ 9)

theorem wb_int (c : UInt8) : inR (c.toNat : Int) 33 126 = wb c := by
  unfold inR wb
  congr 1 <;> (apply decide_eq_decide.2; omega)
/-- the first k bytes are bytes of a word -/
def wbTo (s : ByteArray) (k : Nat) : Prop := ∀ i (h : i < s.size), i < k → wb s[i] = true
theorem wbTo_zero (s : ByteArray) : wbTo s 0 := fun _ _ h => absurd h (by omega)
theorem wbTo_succ {s : ByteArray} {k : Nat} (h : wbTo s k) (hk : k < s.size) (hc : wb s[k] = true) : wbTo s (k + 1) := by
  intro i hi hlt
  by_cases e : i = k
  · subst e; exact hc
  · exact h i hi (by omega)
theorem all_wb {s : ByteArray} (h : wbTo s s.size) : s.data.toList.all wb = true := by
  rw [List.all_eq_true]
  intro c hc
  obtain ⟨i, hi, rfl⟩ := List.getElem_of_mem hc
  exact h i (by simpa using hi) (by simpa using hi)
theorem not_wb {s : ByteArray} {k : Nat} (hk : k < s.size) (hc : wb s[k] = false) : s.data.toList.all wb = false := by
  rw [List.all_eq_false]
  exact ⟨s[k], by
    have : s[k] = s.data.toList[k]'(by simpa using hk) := rfl
    rw [this]; exact List.getElem_mem _, by simp [hc]⟩
theorem wordOK_yes {s : ByteArray} (h1 : 1 ≤ s.size) (h2 : s.size ≤ 12) (h : wbTo s s.size) : wordOK s = true := by
  unfold wordOK; rw [inR_true (by omega) (by omega), all_wb h]; rfl
theorem wordOK_bad {s : ByteArray} {k : Nat} (hk : k < s.size) (hc : wb s[k] = false) : wordOK s = false := by
  unfold wordOK; rw [not_wb hk hc]; simp
theorem wordOK_size {s : ByteArray} (h : (s.size : Int) < 1 ∨ 12 < (s.size : Int)) : wordOK s = false := by
  unfold wordOK; rw [inR_false h]; rfl
theorem wordOK_parts {s : ByteArray} (h : wordOK s = true) : 1 ≤ s.size ∧ s.size ≤ 12 ∧ s.data.toList.all wb = true := by
  unfold wordOK inR at h
  simp only [Bool.and_eq_true, decide_eq_true_eq] at h
  exact ⟨by omega, by omega, h.2⟩
theorem wordOK_of {s : ByteArray} (h1 : 1 ≤ s.size) (h2 : s.size ≤ 12) (h : s.data.toList.all wb = true) : wordOK s = true := by
  unfold wordOK; rw [inR_true (by omega) (by omega), h]; rfl
theorem wb_plain {c : UInt8} (h : wb c = true) : plainB c = true ∧ c ≠ 32 := by
  unfold wb at h; unfold plainB
  simp only [Bool.and_eq_true, decide_eq_true_eq] at h ⊢
  refine ⟨by omega, fun e => ?_⟩
  subst e
  exact absurd h.1 (by decide)
theorem plain_wb {c : UInt8} (h : plainB c = true) (h2 : c ≠ 32) : wb c = true := by
  unfold wb; unfold plainB at h
  simp only [Bool.and_eq_true, decide_eq_true_eq] at h ⊢
  have : c.toNat ≠ 32 := fun e => h2 (UInt8.toNat_inj.1 e)
  omega
/-- a word is a text without spaces, of 1 to 12 bytes -/
theorem wordOK_text {s : ByteArray} (h1 : 1 ≤ s.size) (h2 : s.size ≤ 12) : wordOK s = (validT s.data.toList && decide (32 ∉ s.data.toList)) := by
  have e : wordOK s = s.data.toList.all wb := by
    unfold wordOK; rw [inR_true (by omega) (by omega)]; rfl
  rw [e]
  by_cases hw : s.data.toList.all wb = true
  · rw [hw]
    rw [List.all_eq_true] at hw
    have a1 : validT s.data.toList = true := by
      unfold validT
      rw [Bool.and_eq_true, List.all_eq_true]
      exact ⟨fun c hc => (wb_plain (hw c hc)).1, decide_eq_true (by rw [len_eq]; omega)⟩
    have a2 : 32 ∉ s.data.toList := fun hm => (wb_plain (hw _ hm)).2 rfl
    rw [a1, decide_eq_true a2]; rfl
  · have hw' : s.data.toList.all wb = false := by simpa using hw
    rw [hw']
    by_cases a1 : validT s.data.toList = true
    · have a2 : ¬ (32 ∉ s.data.toList) := by
        intro hm
        rw [List.all_eq_false] at hw'
        obtain ⟨c, hc, hb⟩ := hw'
        unfold validT at a1
        rw [Bool.and_eq_true, List.all_eq_true] at a1
        exact hb (plain_wb (a1.1 c hc) (fun e => hm (e ▸ hc)))
      rw [decide_eq_false a2]; simp
    · have a1' : validT s.data.toList = false := by simpa using a1
      rw [a1']; rfl
/-- the first k of them are words -/
def wordsTo (l : List ByteArray) (k : Nat) : Prop := ∀ i, i < k → wordOK (nth l i) = true
theorem wordsTo_zero (l : List ByteArray) : wordsTo l 0 := fun _ h => absurd h (by omega)
theorem wordsTo_succ {l : List ByteArray} {k : Nat} (h : wordsTo l k) (hc : wordOK (nth l k) = true) : wordsTo l (k + 1) := by
  intro i hlt
  by_cases e : i = k
  · subst e; exact hc
  · exact h i (by omega)
theorem vWords_all {l : List ByteArray} (h : wordsTo l l.length) : vWords l = decide (l.length ≤ 9) := by
  unfold vWords
  have : l.all wordOK = true := by
    rw [List.all_eq_true]
    intro x hx
    obtain ⟨i, hi, rfl⟩ := List.getElem_of_mem hx
    rw [← nth_eq hi]; exact h i hi
  rw [this]; rfl
theorem vWords_bad {l : List ByteArray} {k : Nat} (hk : k < l.length) (hc : wordOK (nth l k) = false) : vWords l = false := by
  unfold vWords
  have : l.all wordOK = false := by
    rw [List.all_eq_false]
    exact ⟨l[k], List.getElem_mem _, by rw [← nth_eq hk]; simp [hc]⟩
  rw [this]; rfl
theorem vWords_long {l : List ByteArray} (h : 9 < l.length) : vWords l = false := by
  unfold vWords
  rw [decide_eq_false (p := l.length ≤ 9) (by omega)]; simp
theorem vWords_parts {l : List ByteArray} (h : vWords l = true) : l.length ≤ 9 ∧ wordsTo l l.length := by
  unfold vWords at h
  rw [Bool.and_eq_true, List.all_eq_true, decide_eq_true_eq] at h
  refine ⟨h.2, fun i hi => ?_⟩
  rw [nth_eq hi]; exact h.1 _ (List.getElem_mem _)
end Go.Proofs.Ytadlelcckalcoaa.pl

/- Plain mathematics: folded texts. -/
namespace Go.Proofs.Ytadlelcckalcoaa.pl

def sp1 : ByteArray := bs [32]
def foldB (s : ByteArray) : ByteArray := joinB (wordsOf s) sp1

/-- the bytes of the words, and one for each -/
def tl : List (List UInt8) → Nat
  | [] => 0
  | x :: r => 1 + x.length + tl r
theorem tl_spl (l : List UInt8) : ∀ cur, tl (spl cur l) ≤ cur.length + l.length + 1 := by
  induction l with
  | nil => intro cur; unfold spl; split <;> simp [tl]; omega
  | cons c r ih =>
    intro cur
    unfold spl
    by_cases h : c = 32
    · rw [if_pos h]
      have h1 := ih []
      simp only [List.length_nil] at h1
      split
      · simp only [List.length_cons]; omega
      · simp only [tl, List.length_cons]; omega
    · rw [if_neg h]
      have h1 := ih (cur ++ [c])
      simp only [List.length_append, List.length_cons, List.length_nil] at h1 ⊢
      omega
theorem tl_tail (r : List (List UInt8)) : (Lib.joinTail [32] r).length = tl r := by
  induction r with
  | nil => simp [Lib.joinTail, tl]
  | cons y r ih =>
    simp only [Lib.joinTail, tl, List.map_cons, List.flatten_cons, List.length_append, List.length_cons, List.length_nil] at ih ⊢
    omega
theorem join_tl (xs : List (List UInt8)) : (Lib.join xs [32]).length = tl xs - 1 := by
  cases xs with
  | nil => simp [Lib.join_nil, tl]
  | cons x r => rw [Lib.join_cons, List.length_append, tl_tail]; simp only [tl]; omega
theorem toL_map (d : List (List UInt8)) : toL (d.map bs) = d := by
  induction d with
  | nil => rfl
  | cons x r ih => simp only [toL, List.map_cons] at ih ⊢; rw [ih, bs_data]
theorem foldB_ok {s : ByteArray} (h : validT s.data.toList = true) : foldB s = bs (Lib.join (wordsL s.data.toList) [32]) := by
  unfold foldB joinB
  rw [wordsOf_ok h]
  unfold wordsB
  rw [toL_map]; rfl
theorem foldB_no {s : ByteArray} (h : validT s.data.toList = false) : foldB s = bs [] := by
  unfold foldB joinB
  rw [wordsOf_no h]; rfl
theorem foldB_size (s : ByteArray) : (foldB s).size ≤ s.size := by
  by_cases h : validT s.data.toList = true
  · rw [foldB_ok h, bs_size, join_tl]
    have h1 := tl_spl s.data.toList []
    rw [len_eq] at h1
    simp only [List.length_nil] at h1
    unfold wordsL; omega
  · rw [foldB_no (by simpa using h), bs_size]; simp
theorem foldB_size120 (s : ByteArray) : (foldB s).size ≤ 120 := by
  by_cases h : validT s.data.toList = true
  · have := foldB_size s; have := validT_size h; omega
  · rw [foldB_no (by simpa using h), bs_size]; simp
end Go.Proofs.Ytadlelcckalcoaa.pl

/- Plain mathematics: words put into lines, by groups of words. -/
namespace Go.Proofs.Ytadlelcckalcoaa.pl

abbrev Gs := List (List ByteArray)
/-- the bytes of a line of these words -/
def szJ (g : List ByteArray) : Nat := (joinB g sp1).size
def lastG (gs : Gs) : List ByteArray := gs.getLastD []
/-- one more word: in a new line, or behind the last one -/
def putG (gs : Gs) (x : ByteArray) (op : Bool) : Gs := if op then gs ++ [[x]] else gs.dropLast ++ [lastG gs ++ [x]]

theorem putG_open (gs : Gs) (x : ByteArray) : putG gs x true = gs ++ [[x]] := rfl
theorem putG_more (d : Gs) (c : List ByteArray) (x : ByteArray) : putG (d ++ [c]) x false = d ++ [c ++ [x]] := by
  simp [putG, lastG]
theorem snocG {gs : Gs} (h : gs ≠ []) : ∃ d c, gs = d ++ [c] ∧ lastG gs = c := by
  refine ⟨gs.dropLast, gs.getLast h, (List.dropLast_concat_getLast h).symm, ?_⟩
  unfold lastG
  rw [List.getLastD_eq_getLast?, List.getLast?_eq_some_getLast h]; rfl
theorem lastG_snoc (d : Gs) (c : List ByteArray) : lastG (d ++ [c]) = c := by simp [lastG]
theorem putG_ne (gs : Gs) (x : ByteArray) (op : Bool) : putG gs x op ≠ [] := by
  unfold putG; split <;> simp
theorem putG_flatten (gs : Gs) (x : ByteArray) (op : Bool) : (putG gs x op).flatten = gs.flatten ++ [x] := by
  cases op with
  | true => simp [putG_open]
  | false =>
    by_cases h : gs = []
    · subst h; simp [putG, lastG]
    · obtain ⟨d, c, rfl, _⟩ := snocG h
      rw [putG_more]; simp
theorem putG_full {gs : Gs} {x : ByteArray} {op : Bool} (h : ∀ g ∈ gs, g ≠ []) : ∀ g ∈ putG gs x op, g ≠ [] := by
  unfold putG
  intro g hg
  split at hg
  · rcases List.mem_append.1 hg with h1 | h1
    · exact h g h1
    · simp at h1; subst h1; simp
  · rcases List.mem_append.1 hg with h1 | h1
    · exact h g (List.dropLast_subset _ h1)
    · simp at h1; subst h1; simp

theorem toL_append (a b : List ByteArray) : toL (a ++ b) = toL a ++ toL b := by simp [toL]
theorem join_snoc (g : List (List UInt8)) (x mid : List UInt8) (h : g ≠ []) : Lib.join (g ++ [x]) mid = Lib.join g mid ++ mid ++ x := by
  cases g with
  | nil => exact absurd rfl h
  | cons y r =>
    rw [List.cons_append, Lib.join_cons, Lib.join_cons]
    simp [Lib.joinTail, List.append_assoc]
theorem joinB_snoc {g : List ByteArray} (h : g ≠ []) (x mid : ByteArray) : joinB (g ++ [x]) mid = joinB g mid ++ mid ++ x := by
  unfold joinB
  rw [toL_append, show toL [x] = [x.data.toList] from rfl, join_snoc _ _ _ (by simpa [toL] using h), bs_append, bs_append, bs_self, bs_self]
theorem joinB_one (x mid : ByteArray) : joinB [x] mid = x := by
  unfold joinB; rw [show toL [x] = [x.data.toList] from rfl, Lib.join_one]; exact bs_self x
theorem joinB_nil (mid : ByteArray) : joinB [] mid = bs [] := by simp [joinB, toL, Lib.join_nil]
theorem szJ_one (x : ByteArray) : szJ [x] = x.size := by unfold szJ; rw [joinB_one]
theorem szJ_snoc {g : List ByteArray} (h : g ≠ []) (x : ByteArray) : szJ (g ++ [x]) = szJ g + 1 + x.size := by
  unfold szJ; rw [joinB_snoc h, ByteArray.size_append, ByteArray.size_append]; rfl
theorem szJ_le_snoc (g : List ByteArray) (x : ByteArray) : szJ g ≤ szJ (g ++ [x]) := by
  by_cases h : g = []
  · subst h; unfold szJ; rw [joinB_nil]; exact Nat.zero_le _
  · rw [szJ_snoc h]; omega

/-- lines by a rule that tells when a new one opens -/
def grW (op : Nat → Gs → ByteArray → Bool) (l : List ByteArray) : Nat → Gs
  | 0 => []
  | k + 1 => putG (grW op l k) (nth l k) (op k (grW op l k) (nth l k))
theorem grW_zero (op l) : grW op l 0 = [] := rfl
theorem grW_succ (op l) (k : Nat) : grW op l (k + 1) = putG (grW op l k) (nth l k) (op k (grW op l k) (nth l k)) := rfl
theorem grW_ne (op l) {k : Nat} (h : 0 < k) : grW op l k ≠ [] := by
  obtain ⟨j, rfl⟩ : ∃ j, k = j + 1 := ⟨k - 1, by omega⟩
  exact putG_ne _ _ _
theorem grW_flatten (op) (l : List ByteArray) : ∀ k, k ≤ l.length → (grW op l k).flatten = l.take k
  | 0, _ => by simp [grW]
  | k + 1, h => by
    rw [grW_succ, putG_flatten, grW_flatten op l k (by omega), List.take_succ_eq_append_getElem (by omega), nth_eq (by omega)]
theorem grW_full (op) (l : List ByteArray) : ∀ k, ∀ g ∈ grW op l k, g ≠ []
  | 0 => by simp [grW]
  | k + 1 => putG_full (grW_full op l k)
theorem grW_len (op) (l : List ByteArray) : ∀ k, (grW op l k).length ≤ k
  | 0 => Nat.le_refl _
  | k + 1 => by
    have := grW_len op l k
    rw [grW_succ]; unfold putG
    split
    · simp; omega
    · by_cases h : grW op l k = []
      · rw [h]; simp
      · have : 0 < (grW op l k).length := List.length_pos_iff.2 h
        simp; omega

/-- the greedy rule -/
def opG (wd : Int) (_ : Nat) (gs : Gs) (x : ByteArray) : Bool := gs.isEmpty || decide (wd < (szJ (lastG gs) : Int) + 1 + x.size)
def greedy (wd : Int) (l : List ByteArray) (k : Nat) : Gs := grW (opG wd) l k
def jline (g : List ByteArray) : ByteArray := joinB g sp1
def wrapB (wd : Int) (l : List ByteArray) : List ByteArray := (greedy wd l l.length).map jline
def shortAll (l : List ByteArray) (wd : Int) : Bool := l.all (fun x => decide ((x.size : Int) ≤ wd))
def fitA (l : List ByteArray) (wd : Int) : Bool := shortAll l wd && vWords l && inR wd 1 120
def wrapR (l : List ByteArray) (wd : Int) : List ByteArray := if fitA l wd = true then wrapB wd l else []
theorem jline_size (g : List ByteArray) : (jline g).size = szJ g := rfl

theorem greedy_zero (wd l) : greedy wd l 0 = [] := rfl
theorem greedy_first (wd : Int) (l : List ByteArray) : greedy wd l 1 = [[nth l 0]] := rfl
/-- how a round of the greedy way goes on -/
theorem greedy_more {wd : Int} {l : List ByteArray} {k : Nat} (d : Gs) (c : List ByteArray) (h : greedy wd l k = d ++ [c]) (hf : (szJ c : Int) + 1 + (nth l k).size ≤ wd) : greedy wd l (k + 1) = d ++ [c ++ [nth l k]] := by
  have : opG wd k (d ++ [c]) (nth l k) = false := by
    unfold opG; rw [lastG_snoc, decide_eq_false (by omega)]; simp
  unfold greedy at h ⊢
  rw [grW_succ, h, this, putG_more]
theorem greedy_new {wd : Int} {l : List ByteArray} {k : Nat} (d : Gs) (c : List ByteArray) (h : greedy wd l k = d ++ [c]) (hf : ¬ (szJ c : Int) + 1 + (nth l k).size ≤ wd) : greedy wd l (k + 1) = d ++ [c] ++ [[nth l k]] := by
  have : opG wd k (d ++ [c]) (nth l k) = true := by
    unfold opG; rw [lastG_snoc, decide_eq_true (by omega)]; simp
  unfold greedy at h ⊢
  rw [grW_succ, h, this, putG_open]
theorem greedy_snoc (wd : Int) (l : List ByteArray) {k : Nat} (h : 0 < k) : ∃ d c, greedy wd l k = d ++ [c] ∧ c ≠ [] := by
  obtain ⟨d, c, h1, _⟩ := snocG (grW_ne (opG wd) l h)
  exact ⟨d, c, h1, grW_full (opG wd) l k c (by rw [h1]; simp)⟩

/-- lines are not longer than the width -/
theorem greedy_fits {wd : Int} {l : List ByteArray} (hs : ∀ i, i < l.length → ((nth l i).size : Int) ≤ wd) : ∀ k, k ≤ l.length → ∀ g ∈ greedy wd l k, (szJ g : Int) ≤ wd
  | 0, _ => by simp [greedy, grW]
  | k + 1, hk => by
    have ih := greedy_fits hs k (by omega)
    have hx := hs k (by omega)
    by_cases h0 : 0 < k
    · obtain ⟨d, c, h1, hc⟩ := greedy_snoc wd l h0
      by_cases hf : (szJ c : Int) + 1 + (nth l k).size ≤ wd
      · rw [greedy_more d c h1 hf]
        rw [h1] at ih
        intro g hg
        rcases List.mem_append.1 hg with h2 | h2
        · exact ih g (List.mem_append_left _ h2)
        · simp at h2; subst h2; rw [szJ_snoc hc]; omega
      · rw [greedy_new d c h1 hf]
        rw [h1] at ih
        intro g hg
        rcases List.mem_append.1 hg with h2 | h2
        · exact ih g h2
        · simp at h2; subst h2; rw [szJ_one]; exact hx
    · obtain rfl : k = 0 := by omega
      rw [greedy_first]
      intro g hg
      simp at hg; subst hg; rw [szJ_one]; exact hx

theorem shortAll_yes {l : List ByteArray} {wd : Int} (h : ∀ i, i < l.length → ((nth l i).size : Int) ≤ wd) : shortAll l wd = true := by
  unfold shortAll
  rw [List.all_eq_true]
  intro x hx
  obtain ⟨i, hi, rfl⟩ := List.getElem_of_mem hx
  rw [decide_eq_true_eq, ← nth_eq hi]; exact h i hi
theorem shortAll_no {l : List ByteArray} {wd : Int} {k : Nat} (hk : k < l.length) (h : wd < ((nth l k).size : Int)) : shortAll l wd = false := by
  unfold shortAll
  rw [List.all_eq_false]
  exact ⟨l[k], List.getElem_mem _, by rw [← nth_eq hk]; simp; omega⟩
theorem shortAll_parts {l : List ByteArray} {wd : Int} (h : shortAll l wd = true) : ∀ i, i < l.length → ((nth l i).size : Int) ≤ wd := by
  intro i hi
  unfold shortAll at h
  rw [List.all_eq_true] at h
  have := h _ (List.getElem_mem hi)
  rw [decide_eq_true_eq] at this
  rw [nth_eq hi]; exact this
theorem fitA_parts {l : List ByteArray} {wd : Int} (h : fitA l wd = true) : (∀ i, i < l.length → ((nth l i).size : Int) ≤ wd) ∧ vWords l = true ∧ 1 ≤ wd ∧ wd ≤ 120 := by
  unfold fitA inR at h
  simp only [Bool.and_eq_true, decide_eq_true_eq] at h
  exact ⟨shortAll_parts h.1.1, h.1.2, h.2.1, h.2.2⟩
theorem wrapR_yes {l : List ByteArray} {wd : Int} (h : fitA l wd = true) : wrapR l wd = wrapB wd l := by simp [wrapR, h]
theorem wrapR_no {l : List ByteArray} {wd : Int} (h : fitA l wd = false) : wrapR l wd = [] := by simp [wrapR, h]
theorem wrapB_len (wd : Int) (l : List ByteArray) : (wrapB wd l).length ≤ l.length := by
  unfold wrapB; rw [List.length_map]; exact grW_len _ l _
theorem wrapR_len (l : List ByteArray) (wd : Int) : (wrapR l wd).length ≤ l.length := by
  unfold wrapR; split
  · exact wrapB_len wd l
  · exact Nat.zero_le _
end Go.Proofs.Ytadlelcckalcoaa.pl

/- Plain mathematics: rows of texts, lines that are drawn, the longest line, lines that are changed. -/
namespace Go.Proofs.Ytadlelcckalcoaa.pl

/-- paragraph k -/
def nthP (ps : Gs) (k : Nat) : List ByteArray := ps.getD k []
theorem nthP_eq {ps : Gs} {k : Nat} (h : k < ps.length) : nthP ps k = ps[k] := by simp [nthP, h]
def totTo (ps : Gs) : Nat → Nat
  | 0 => 0
  | k + 1 => totTo ps k + (nthP ps k).length
theorem totTo_succ (ps : Gs) (k : Nat) : totTo ps (k + 1) = totTo ps k + (nthP ps k).length := rfl
theorem totTo_mono (ps : Gs) (k : Nat) : ∀ d, totTo ps k ≤ totTo ps (k + d)
  | 0 => Nat.le_refl _
  | d + 1 => Nat.le_trans (totTo_mono ps k d) (by rw [← Nat.add_assoc, totTo_succ]; omega)
theorem totTo_le {ps : Gs} {k m : Nat} (h : k ≤ m) : totTo ps k ≤ totTo ps m := by
  have := totTo_mono ps k (m - k)
  rwa [Nat.add_sub_cancel' h] at this
theorem totTo_flat (ps : Gs) : ∀ k, k ≤ ps.length → totTo ps k = (ps.take k).flatten.length
  | 0, _ => rfl
  | k + 1, h => by
    rw [totTo_succ, totTo_flat ps k (by omega), List.take_succ_eq_append_getElem (by omega), List.flatten_append, List.length_append, nthP_eq (by omega)]
    simp
theorem all_nthP {ps : Gs} {f : List ByteArray → Bool} (h : ∀ k, k < ps.length → f (nthP ps k) = true) : ps.all f = true := by
  rw [List.all_eq_true]
  intro p hp
  obtain ⟨k, hk, rfl⟩ := List.getElem_of_mem hp
  rw [← nthP_eq hk]; exact h k hk
theorem all_nthP_no {ps : Gs} {f : List ByteArray → Bool} {k : Nat} (hk : k < ps.length) (h : f (nthP ps k) = false) : ps.all f = false := by
  rw [List.all_eq_false]
  exact ⟨_, List.getElem_mem hk, by rw [← nthP_eq hk, h]; simp⟩
theorem all_at {ps : Gs} {f : List ByteArray → Bool} (h : ps.all f = true) {k : Nat} (hk : k < ps.length) : f (nthP ps k) = true := by
  rw [List.all_eq_true] at h
  rw [nthP_eq hk]; exact h _ (List.getElem_mem hk)
/-- what is drawn of n lines, each by its place: all of them, or none if one is no text -/
def drawL (f : Nat → ByteArray) (n : Nat) : List ByteArray := (List.range n).map f
theorem drawL_len (f : Nat → ByteArray) (n : Nat) : (drawL f n).length = n := by simp [drawL]
theorem drawL_nth (f : Nat → ByteArray) {n i : Nat} (h : i < n) : nth (drawL f n) i = f i := by
  rw [nth_eq (by rw [drawL_len]; exact h)]; simp [drawL]
/-- the length of the longest of the first k lines -/
def wideTo (l : List ByteArray) : Nat → Nat
  | 0 => 0
  | k + 1 => max (wideTo l k) (nth l k).size
def wide (l : List ByteArray) : Nat := wideTo l l.length
theorem wideTo_succ (l : List ByteArray) (k : Nat) : wideTo l (k + 1) = max (wideTo l k) (nth l k).size := rfl
theorem wideTo_le {l : List ByteArray} {M : Nat} : ∀ k, (∀ i, i < k → (nth l i).size ≤ M) → wideTo l k ≤ M
  | 0, _ => Nat.zero_le _
  | k + 1, h => by
    have h1 := wideTo_le k (fun i hi => h i (by omega))
    have h2 := h k (by omega)
    rw [wideTo_succ]; omega
theorem le_wideTo {l : List ByteArray} {i : Nat} : ∀ k, i < k → (nth l i).size ≤ wideTo l k
  | 0, h => absurd h (by omega)
  | k + 1, h => by
    rw [wideTo_succ]
    by_cases e : i = k
    · subst e; omega
    · have := le_wideTo (l := l) (i := i) k (by omega); omega
theorem nth_over {l : List ByteArray} {i : Nat} (h : l.length ≤ i) : nth l i = ByteArray.empty := by
  unfold nth; simp [List.getD, List.getElem?_eq_none h]
theorem le_wide (l : List ByteArray) (i : Nat) : (nth l i).size ≤ wide l := by
  by_cases h : i < l.length
  · exact le_wideTo _ h
  · rw [nth_over (by omega)]; exact Nat.zero_le _
end Go.Proofs.Ytadlelcckalcoaa.pl

/- Plain: tables: rows of cells. -/
namespace Go.Proofs.Ytadlelcckalcoaa.pl
set_option maxRecDepth 100000

def vCell (x : ByteArray) : Bool := validT x.data.toList && decide (x.size ≤ 16)
def vCells (l : List ByteArray) : Bool := inR l.length 1 5 && l.all vCell
def rowOK (n : Nat) (c : List ByteArray) : Bool := decide (c.length = n) && vCells c
def vRows (ps : Gs) : Bool := decide (ps.length ≤ 6) && ps.all (rowOK (nthP ps 0).length)

theorem vCell_yes {x : ByteArray} (h1 : validT x.data.toList = true) (h2 : x.size ≤ 16) : vCell x = true := by simp [vCell, h1, h2]
theorem vCell_bad {x : ByteArray} (h : validT x.data.toList = false) : vCell x = false := by simp [vCell, h]
theorem vCell_long {x : ByteArray} (h : 16 < x.size) : vCell x = false := by simp [vCell]; intro _; omega
theorem vCell_parts {x : ByteArray} (h : vCell x = true) : validT x.data.toList = true ∧ x.size ≤ 16 := by simpa [vCell] using h

def cellsTo (l : List ByteArray) (k : Nat) : Prop := ∀ i, i < k → vCell (nth l i) = true
theorem cellsTo_zero (l : List ByteArray) : cellsTo l 0 := fun _ h => absurd h (by omega)
theorem cellsTo_succ {l : List ByteArray} {k : Nat} (h : cellsTo l k) (hc : vCell (nth l k) = true) : cellsTo l (k + 1) := by
  intro i hi
  by_cases e : i = k
  · subst e; exact hc
  · exact h i (by omega)
theorem vCells_yes {l : List ByteArray} (h1 : 1 ≤ l.length) (h2 : l.length ≤ 5) (h : cellsTo l l.length) : vCells l = true := by
  unfold vCells
  rw [inR_true (by omega) (by omega), Bool.true_and, List.all_eq_true]
  intro x hx
  obtain ⟨i, hi, rfl⟩ := List.getElem_of_mem hx
  rw [← nth_eq hi]; exact h i hi
theorem vCells_len {l : List ByteArray} (h : l.length < 1 ∨ 5 < l.length) : vCells l = false := by
  unfold vCells
  rw [inR_false (by omega)]; rfl
theorem vCells_bad {l : List ByteArray} {k : Nat} (hk : k < l.length) (h : vCell (nth l k) = false) : vCells l = false := by
  unfold vCells
  have : l.all vCell = false := by
    rw [List.all_eq_false]
    exact ⟨l[k], List.getElem_mem hk, by rw [← nth_eq hk, h]; simp⟩
  rw [this, Bool.and_false]
theorem vCells_parts {l : List ByteArray} (h : vCells l = true) : 1 ≤ l.length ∧ l.length ≤ 5 ∧ cellsTo l l.length := by
  unfold vCells at h
  simp only [Bool.and_eq_true, List.all_eq_true] at h
  obtain ⟨h1, h2⟩ := h
  have h3 : 1 ≤ (l.length : Int) ∧ (l.length : Int) ≤ 5 := by simpa [inR] using h1
  exact ⟨by omega, by omega, fun i hi => by rw [nth_eq hi]; exact h2 _ (List.getElem_mem hi)⟩
theorem vCells_size {l : List ByteArray} (h : vCells l = true) : ∀ i, i < l.length → (nth l i).size ≤ 16 := fun i hi => (vCell_parts ((vCells_parts h).2.2 i hi)).2
theorem vCells_text {l : List ByteArray} (h : vCells l = true) : ∀ i, i < l.length → validT (nth l i).data.toList = true := fun i hi => (vCell_parts ((vCells_parts h).2.2 i hi)).1

theorem rowOK_yes {n : Nat} {c : List ByteArray} (h1 : c.length = n) (h2 : vCells c = true) : rowOK n c = true := by simp [rowOK, h1, h2]
theorem rowOK_len {n : Nat} {c : List ByteArray} (h : ¬ c.length = n) : rowOK n c = false := by simp [rowOK, h]
theorem rowOK_bad {n : Nat} {c : List ByteArray} (h : vCells c = false) : rowOK n c = false := by simp [rowOK, h]
theorem rowOK_parts {n : Nat} {c : List ByteArray} (h : rowOK n c = true) : c.length = n ∧ vCells c = true := by simpa [rowOK] using h

def rowsTo (ps : Gs) (k : Nat) : Prop := ∀ i, i < k → rowOK (nthP ps 0).length (nthP ps i) = true
theorem rowsTo_zero (ps : Gs) : rowsTo ps 0 := fun _ h => absurd h (by omega)
theorem rowsTo_succ {ps : Gs} {k : Nat} (h : rowsTo ps k) (hc : rowOK (nthP ps 0).length (nthP ps k) = true) : rowsTo ps (k + 1) := by
  intro i hi
  by_cases e : i = k
  · subst e; exact hc
  · exact h i (by omega)
theorem vRows_all {ps : Gs} (h : rowsTo ps ps.length) : vRows ps = decide (ps.length ≤ 6) := by
  unfold vRows
  rw [all_nthP (f := rowOK (nthP ps 0).length) h, Bool.and_true]
theorem vRows_long {ps : Gs} (h : 6 < ps.length) : vRows ps = false := by
  unfold vRows
  rw [decide_eq_false (by omega)]; rfl
theorem vRows_bad {ps : Gs} {k : Nat} (hk : k < ps.length) (h : rowOK (nthP ps 0).length (nthP ps k) = false) : vRows ps = false := by
  unfold vRows
  rw [all_nthP_no (f := rowOK (nthP ps 0).length) hk h, Bool.and_false]
theorem vRows_parts {ps : Gs} (h : vRows ps = true) : ps.length ≤ 6 ∧ rowsTo ps ps.length := by
  unfold vRows at h
  simp only [Bool.and_eq_true, decide_eq_true_eq] at h
  exact ⟨h.1, fun i hi => all_at h.2 hi⟩
/-- the number of columns -/
def colsN (ps : Gs) : Nat := (nthP ps 0).length
theorem colsN_nil {ps : Gs} (h : ps.length = 0) : colsN ps = 0 := by
  have : ps = [] := List.length_eq_zero_iff.1 h
  subst this; rfl
theorem vRows_cols {ps : Gs} (h : vRows ps = true) : colsN ps ≤ 5 := by
  by_cases h0 : ps.length = 0
  · rw [colsN_nil h0]; omega
  · have h1 := (vRows_parts h).2 0 (by omega)
    exact (vCells_parts (rowOK_parts h1).2).2.1
theorem vRows_pos {ps : Gs} (h : vRows ps = true) (h0 : 0 < ps.length) : 1 ≤ colsN ps :=
  (vCells_parts (rowOK_parts ((vRows_parts h).2 0 h0)).2).1
theorem vRows_row {ps : Gs} (h : vRows ps = true) {i : Nat} (hi : i < ps.length) : (nthP ps i).length = colsN ps ∧ vCells (nthP ps i) = true :=
  rowOK_parts ((vRows_parts h).2 i hi)

/-- the column at place k, from the top on -/
def colL (ps : Gs) (k : Nat) : List ByteArray := ps.map fun c => nth c k
theorem colL_len (ps : Gs) (k : Nat) : (colL ps k).length = ps.length := by simp [colL]
theorem colL_nth {ps : Gs} {k i : Nat} (h : i < ps.length) : nth (colL ps k) i = nth (nthP ps i) k := by
  rw [nth_eq (by rw [colL_len]; exact h), nthP_eq h]; simp [colL]
theorem colL_drawL (ps : Gs) (k : Nat) : colL ps k = drawL (fun i => nth (nthP ps i) k) ps.length := by
  apply nth_ext (by rw [colL_len, drawL_len])
  intro i hi
  rw [colL_len] at hi
  rw [colL_nth hi, drawL_nth _ hi]
theorem colL_size {ps : Gs} (h : vRows ps = true) {k : Nat} (hk : k < colsN ps) : ∀ i, i < ps.length → (nth (nthP ps i) k).size ≤ 16 := by
  intro i hi
  have := vRows_row h hi
  exact vCells_size this.2 k (by rw [this.1]; exact hk)
theorem colL_text {ps : Gs} (h : vRows ps = true) {k : Nat} (hk : k < colsN ps) : ∀ i, i < ps.length → validT (nth (nthP ps i) k).data.toList = true := by
  intro i hi
  have := vRows_row h hi
  exact vCells_text this.2 k (by rw [this.1]; exact hk)

def turnL (ps : Gs) : Gs := (List.range (colsN ps)).map (colL ps)
theorem turnL_len (ps : Gs) : (turnL ps).length = colsN ps := by simp [turnL]
theorem turnL_nth {ps : Gs} {k : Nat} (h : k < colsN ps) : nthP (turnL ps) k = colL ps k := by
  rw [nthP_eq (by rw [turnL_len]; exact h)]; simp [turnL]
def turnB (ps : Gs) : Bool := vRows ps && inR ps.length 1 5
def turnR (ps : Gs) : Gs := if turnB ps = true then turnL ps else []
theorem turnR_no {ps : Gs} (h : turnB ps = false) : turnR ps = [] := by simp [turnR, h]
theorem turnR_yes {ps : Gs} (h : turnB ps = true) : turnR ps = turnL ps := by simp [turnR, h]
theorem turnB_parts {ps : Gs} (h : turnB ps = true) : vRows ps = true ∧ 1 ≤ ps.length ∧ ps.length ≤ 5 := by
  unfold turnB at h
  simp only [Bool.and_eq_true] at h
  have h3 : 1 ≤ (ps.length : Int) ∧ (ps.length : Int) ≤ 5 := by simpa [inR] using h.2
  exact ⟨h.1, by omega, by omega⟩
theorem turn_cols {ps : Gs} (h : turnB ps = true) : colsN (turnL ps) = ps.length := by
  obtain ⟨hv, h1, h5⟩ := turnB_parts h
  unfold colsN
  rw [turnL_nth (vRows_pos hv h1), colL_len]
theorem turn_valid {ps : Gs} (h : turnB ps = true) : turnB (turnL ps) = true := by
  obtain ⟨hv, h1, h5⟩ := turnB_parts h
  have hc := vRows_cols hv
  have hp := vRows_pos hv h1
  have e : (nthP (turnL ps) 0).length = ps.length := turn_cols h
  have hr : vRows (turnL ps) = true := by
    rw [vRows_all (ps := turnL ps) (fun i hi => ?_), turnL_len]
    · exact decide_eq_true (by omega)
    · rw [turnL_len] at hi
      rw [turnL_nth hi, e]
      refine rowOK_yes (colL_len _ _) (vCells_yes (by rw [colL_len]; exact h1) (by rw [colL_len]; exact h5) (fun j hj => ?_))
      rw [colL_len] at hj
      rw [colL_nth hj]
      exact vCell_yes (colL_text hv hi j hj) (colL_size hv hi j hj)
  unfold turnB
  rw [hr, turnL_len, inR_true (by omega) (by omega)]; rfl
theorem nthP_ext {a b : Gs} (hl : a.length = b.length) (h : ∀ i, i < a.length → nthP a i = nthP b i) : a = b := by
  apply List.ext_getElem hl
  intro i h1 h2
  have := h i h1
  rwa [nthP_eq h1, nthP_eq h2] at this
theorem turn_turn {ps : Gs} (h : turnB ps = true) : turnL (turnL ps) = ps := by
  obtain ⟨hv, h1, h5⟩ := turnB_parts h
  apply nthP_ext
  · rw [turnL_len, turn_cols h]
  · intro i hi
    rw [turnL_len, turn_cols h] at hi
    rw [turnL_nth (by rw [turn_cols h]; exact hi)]
    have hrow := vRows_row hv hi
    apply nth_ext
    · rw [colL_len, turnL_len, hrow.1]
    · intro j hj
      rw [colL_len, turnL_len] at hj
      rw [colL_nth (by rw [turnL_len]; exact hj), turnL_nth hj, colL_nth hi]

def widthsL (ps : Gs) : List Nat := (List.range (colsN ps)).map fun k => wide (colL ps k)
theorem wide_col {ps : Gs} (h : vRows ps = true) {k : Nat} (hk : k < colsN ps) : wide (colL ps k) ≤ 16 :=
  wideTo_le _ (fun i hi => by rw [colL_len] at hi; rw [colL_nth hi]; exact colL_size h hk i hi)
theorem le_wide_col {ps : Gs} {i k : Nat} (hi : i < ps.length) : (nth (nthP ps i) k).size ≤ wide (colL ps k) := by
  rw [← colL_nth hi]; exact le_wide _ _
theorem vRows_dropLast {ps : Gs} {n : Nat} (h : vRows ps = true) (hn : n + 1 = ps.length) : vRows (ps.take n) = true := by
  obtain ⟨h6, hr⟩ := vRows_parts h
  have hl : (ps.take n).length = n := by rw [List.length_take]; omega
  have hth : ∀ i, i < n → nthP (ps.take n) i = nthP ps i := by
    intro i hi
    rw [nthP_eq (by omega), nthP_eq (by omega), List.getElem_take]
  rw [vRows_all (ps := ps.take n) (fun i hi => ?_), hl]
  · exact decide_eq_true (by omega)
  · rw [hl] at hi
    rw [hth i hi, hth 0 (by omega)]
    exact hr i (by omega)
end Go.Proofs.Ytadlelcckalcoaa.pl

/- Plain mathematics: what the laws say of words and folded texts. -/
namespace Go.Proofs.Ytadlelcckalcoaa.pl

def noSp (x : List UInt8) : Prop := ∀ c ∈ x, c ≠ 32
def good (x : List UInt8) : Prop := x ≠ [] ∧ noSp x
theorem noSp_snoc {x : List UInt8} {c : UInt8} (h : noSp x) (hc : c ≠ 32) : noSp (x ++ [c]) := by
  intro d hd
  rcases List.mem_append.1 hd with h1 | h1
  · exact h d h1
  · rw [List.mem_singleton.1 h1]; exact hc
theorem spl_good (l : List UInt8) : ∀ cur, noSp cur → ∀ x ∈ spl cur l, good x := by
  induction l with
  | nil =>
    intro cur hc x hx
    unfold spl at hx
    split at hx
    · cases hx
    · rw [List.mem_singleton.1 hx]; exact ⟨by assumption, hc⟩
  | cons c r ih =>
    intro cur hc x hx
    unfold spl at hx
    by_cases h : c = 32
    · rw [if_pos h] at hx
      split at hx
      · exact ih [] (fun _ h => by cases h) x hx
      · rcases List.mem_cons.1 hx with h1 | h1
        · rw [h1]; exact ⟨by assumption, hc⟩
        · exact ih [] (fun _ h => by cases h) x h1
    · rw [if_neg h] at hx
      exact ih _ (noSp_snoc hc h) x hx
theorem wordsL_good (l : List UInt8) : ∀ x ∈ wordsL l, good x := spl_good l [] (fun _ h => by cases h)

theorem spl_len1 (l : List UInt8) : ∀ cur, ∀ x ∈ spl cur l, x.length ≤ cur.length + l.length := by
  induction l with
  | nil =>
    intro cur x hx
    unfold spl at hx
    split at hx
    · cases hx
    · rw [List.mem_singleton.1 hx]; simp
  | cons c r ih =>
    intro cur x hx
    unfold spl at hx
    by_cases h : c = 32
    · rw [if_pos h] at hx
      split at hx
      · have := ih [] x hx; simp only [List.length_nil, List.length_cons] at this ⊢; omega
      · rcases List.mem_cons.1 hx with h1 | h1
        · rw [h1]; omega
        · have := ih [] x h1; simp only [List.length_nil, List.length_cons] at this ⊢; omega
    · rw [if_neg h] at hx
      have := ih _ x hx
      simp only [List.length_append, List.length_cons, List.length_nil] at this ⊢
      omega
theorem spl_app {x : List UInt8} (hx : noSp x) : ∀ cur r, spl cur (x ++ r) = spl (cur ++ x) r := by
  induction x with
  | nil => intro cur r; simp
  | cons c x ih =>
    intro cur r
    have hc : c ≠ 32 := hx c (by simp)
    rw [List.cons_append]
    conv => lhs; unfold spl
    rw [if_neg hc, ih (fun d hd => hx d (by simp [hd])), List.append_assoc]
    rfl
theorem tail_cons (y : List UInt8) (r : List (List UInt8)) : Lib.joinTail [32] (y :: r) = 32 :: (y ++ Lib.joinTail [32] r) := by simp [Lib.joinTail]
theorem spl_tail (r : List (List UInt8)) : ∀ x, x ≠ [] → (∀ y ∈ r, good y) → spl x (Lib.joinTail [32] r) = x :: r := by
  induction r with
  | nil => intro x hx _; simp [Lib.joinTail, spl, hx]
  | cons y r ih =>
    intro x hx hr
    have hy := hr y (by simp)
    rw [tail_cons]
    conv => lhs; unfold spl
    rw [if_pos rfl, if_neg hx, spl_app hy.2, List.nil_append, ih y hy.1 (fun z hz => hr z (by simp [hz]))]
theorem wordsL_join {ws : List (List UInt8)} (h : ∀ y ∈ ws, good y) : wordsL (Lib.join ws [32]) = ws := by
  cases ws with
  | nil => rfl
  | cons x r =>
    have hx := h x (by simp)
    unfold wordsL
    rw [Lib.join_cons, spl_app hx.2, List.nil_append, spl_tail r x hx.1 (fun z hz => h z (by simp [hz]))]

/-- a property of bytes that holds of a text holds of its words -/
theorem spl_all (p : UInt8 → Bool) (l : List UInt8) : ∀ cur, (cur.all p = true) → (l.all p = true) → ∀ x ∈ spl cur l, x.all p = true := by
  induction l with
  | nil =>
    intro cur hc _ x hx
    unfold spl at hx
    split at hx
    · cases hx
    · rw [List.mem_singleton.1 hx]; exact hc
  | cons c r ih =>
    intro cur hc hl x hx
    simp only [List.all_cons, Bool.and_eq_true] at hl
    unfold spl at hx
    by_cases h : c = 32
    · rw [if_pos h] at hx
      split at hx
      · exact ih [] rfl hl.2 x hx
      · rcases List.mem_cons.1 hx with h1 | h1
        · rw [h1]; exact hc
        · exact ih [] rfl hl.2 x h1
    · rw [if_neg h] at hx
      exact ih _ (by simp [hc, hl.1]) hl.2 x hx
theorem tail_all (p : UInt8 → Bool) (hp : p 32 = true) (r : List (List UInt8)) (h : ∀ x ∈ r, x.all p = true) : (Lib.joinTail [32] r).all p = true := by
  induction r with
  | nil => rfl
  | cons y r ih =>
    rw [tail_cons, List.all_cons, List.all_append, hp, h y (by simp), ih (fun z hz => h z (by simp [hz]))]; rfl
theorem join_all (p : UInt8 → Bool) (hp : p 32 = true) (r : List (List UInt8)) (h : ∀ x ∈ r, x.all p = true) : (Lib.join r [32]).all p = true := by
  cases r with
  | nil => rfl
  | cons x r => rw [Lib.join_cons, List.all_append, h x (by simp), tail_all p hp r (fun z hz => h z (by simp [hz]))]; rfl

theorem fold_valid {s : ByteArray} (h : validT s.data.toList = true) : validT (foldB s).data.toList = true := by
  have h' := h
  unfold validT at h'
  simp only [Bool.and_eq_true] at h'
  have hs := foldB_size120 s
  rw [foldB_ok h] at hs ⊢
  rw [bs_data]
  rw [bs_size] at hs
  have ha : (Lib.join (wordsL s.data.toList) [32]).all plainB = true := join_all plainB (by decide) _ (fun x hx => spl_all plainB _ [] rfl h'.1 x hx)
  unfold validT
  rw [ha, decide_eq_true hs]; rfl
theorem fold_words {s : ByteArray} (h : validT s.data.toList = true) : wordsOf (foldB s) = wordsOf s := by
  rw [wordsOf_ok (fold_valid h), wordsOf_ok h]
  unfold wordsB
  rw [foldB_ok h, bs_data, wordsL_join (wordsL_good _)]
theorem fold_fold {s : ByteArray} (h : validT s.data.toList = true) : foldB (foldB s) = foldB s := by
  have : wordsOf (foldB s) = wordsOf s := fold_words h
  unfold foldB at this ⊢
  rw [this]

/-- the bytes but for one -/
def without (l : List UInt8) (c : UInt8) : List UInt8 := l.filter (fun d => !(d == c))
theorem spl_flat (l : List UInt8) : ∀ cur, (spl cur l).flatten = cur ++ without l 32 := by
  induction l with
  | nil => intro cur; unfold spl; split <;> simp_all [without]
  | cons c r ih =>
    intro cur
    unfold spl
    by_cases h : c = 32
    · rw [if_pos h]
      have e : without (c :: r) 32 = without r 32 := by simp [without, h]
      split
      · rw [ih, e]; simp_all
      · rw [List.flatten_cons, ih, e]; simp
    · rw [if_neg h, ih]
      have e : without (c :: r) 32 = c :: without r 32 := by simp [without, h]
      rw [e, List.append_assoc]; rfl
theorem join_nosep (ws : List (List UInt8)) : Lib.join ws [] = ws.flatten := by
  cases ws with
  | nil => rfl
  | cons x r =>
    rw [Lib.join_cons, List.flatten_cons]
    congr 1
    induction r with
    | nil => rfl
    | cons y r ih => simp only [Lib.joinTail, List.map_cons, List.flatten_cons, List.nil_append] at ih ⊢; rw [ih]
theorem words_without {s : ByteArray} (h : validT s.data.toList = true) : bs (without s.data.toList 32) = joinB (wordsOf s) (bs []) := by
  unfold joinB
  rw [wordsOf_ok h]
  unfold wordsB
  rw [toL_map, bs_data, join_nosep]
  unfold wordsL
  rw [spl_flat]; rfl
theorem joinB_sp {s : ByteArray} : joinB (wordsOf s) ⟨#[32]⟩ = foldB s := rfl

/-- the first and the last byte of a folded text are no spaces -/
theorem join_head {ws : List (List UInt8)} (h : ∀ y ∈ ws, good y) {c : UInt8} {r : List UInt8} (e : Lib.join ws [32] = c :: r) : c ≠ 32 := by
  cases ws with
  | nil => cases e
  | cons x r' =>
    rw [Lib.join_cons] at e
    have hx := h x (by simp)
    cases x with
    | nil => exact absurd rfl hx.1
    | cons d x' =>
      rw [List.cons_append] at e
      injection e with e1 _
      rw [← e1]; exact hx.2 d (by simp)
theorem tail_last (r : List (List UInt8)) : ∀ x, good x → (∀ y ∈ r, good y) → ∀ c, (x ++ Lib.joinTail [32] r).getLast? = some c → c ≠ 32 := by
  induction r with
  | nil =>
    intro x hx _ c hc
    simp only [Lib.joinTail, List.map_nil, List.flatten_nil, List.append_nil] at hc
    exact hx.2 c (List.mem_of_getLast? hc)
  | cons y r ih =>
    intro x hx hr c hc
    rw [tail_cons, List.getLast?_append, List.getLast?_cons] at hc
    simp only [Option.some_or, Option.some.injEq] at hc
    cases hd : (y ++ Lib.joinTail [32] r).getLast? with
    | none => rw [List.getLast?_eq_none_iff] at hd; exact absurd (List.append_eq_nil_iff.1 hd).1 (hr y (by simp)).1
    | some d =>
      rw [hd] at hc
      simp only [Option.getD_some] at hc
      subst hc
      exact ih y (hr y (by simp)) (fun z hz => hr z (by simp [hz])) _ hd
theorem join_last {ws : List (List UInt8)} (h : ∀ y ∈ ws, good y) {c : UInt8} (e : (Lib.join ws [32]).getLast? = some c) : c ≠ 32 := by
  cases ws with
  | nil => cases e
  | cons x r => rw [Lib.join_cons] at e; exact tail_last r x (h x (by simp)) (fun z hz => h z (by simp [hz])) c e
end Go.Proofs.Ytadlelcckalcoaa.pl

/- Plain mathematics: what the law says of padded texts. -/
namespace Go.Proofs.Ytadlelcckalcoaa.pl

theorem spL_succ (n : Nat) : spL (n + 1) = 32 :: spL n := rfl
theorem spl_ahead (n : Nat) (l : List UInt8) : spl [] (spL n ++ l) = spl [] l := by
  induction n with
  | zero => rfl
  | succ n ih => rw [spL_succ, List.cons_append]; conv => lhs; unfold spl
                 rw [if_pos rfl, if_pos rfl, ih]
theorem spl_sp (n : Nat) : ∀ cur, spl cur (spL n) = if cur = [] then [] else [cur] := by
  induction n with
  | zero => intro cur; rfl
  | succ n ih => intro cur; rw [spL_succ]; conv => lhs; unfold spl
                 rw [if_pos rfl, ih, if_pos rfl]
theorem spl_behind (n : Nat) (l : List UInt8) : ∀ cur, spl cur (l ++ spL n) = spl cur l := by
  induction l with
  | nil => intro cur; rw [List.nil_append, spl_sp]; conv => rhs; unfold spl
  | cons c r ih =>
    intro cur
    rw [List.cons_append]
    unfold spl
    rw [ih, ih]
/-- a text with spaces ahead and behind -/
def padded (i : Nat) (s : ByteArray) (j : Nat) : ByteArray := spB i ++ s ++ spB j
theorem padded_data (i : Nat) (s : ByteArray) (j : Nat) : (padded i s j).data.toList = spL i ++ s.data.toList ++ spL j := by
  unfold padded; rw [ByteArray.data_append, Array.toList_append, ByteArray.data_append, Array.toList_append]; rfl
theorem padded_size (i : Nat) (s : ByteArray) (j : Nat) : (padded i s j).size = i + s.size + j := by
  unfold padded; rw [ByteArray.size_append, ByteArray.size_append, spB_size, spB_size]
theorem sp_memb {n : Nat} {c : UInt8} (h : c ∈ spL n) : c = 32 := (List.mem_replicate.1 h).2
theorem all_sp (n : Nat) : (spL n).all plainB = true := by
  rw [List.all_eq_true]; intro x hx; rw [sp_memb hx]; decide
theorem padded_valid {i j : Nat} {s : ByteArray} (h : validT s.data.toList = true) (hl : i + s.size + j ≤ 120) : validT (padded i s j).data.toList = true := by
  have hsz := padded_size i s j
  unfold validT at h ⊢
  simp only [Bool.and_eq_true, decide_eq_true_eq] at h ⊢
  refine ⟨?_, by rw [len_eq]; omega⟩
  rw [padded_data, List.all_append, List.all_append, all_sp, all_sp, h.1]; rfl
theorem padded_words {i j : Nat} {s : ByteArray} (h : validT s.data.toList = true) (hl : i + s.size + j ≤ 120) : wordsOf (padded i s j) = wordsOf s := by
  rw [wordsOf_ok (padded_valid h hl), wordsOf_ok h]
  unfold wordsB wordsL
  rw [padded_data, List.append_assoc, spl_ahead, spl_behind]
/-- what the law asks of a padded text that is not empty -/
structure PadOk (s : ByteArray) (a : Int) (how : ByteArray) : Prop where
  wid : 0 ≤ a ∧ a ≤ 120
  valid : validT s.data.toList = true
  size : (padB s a how).size = max s.size a.toNat
  words : wordsOf (padB s a how) = wordsOf s
  again : padB (padB s a how) a how = padB s a how
theorem padB_padded {s : ByteArray} {wd : Nat} {h : ByteArray} (hv : validT s.data.toList = true) (h2 : wd ≤ 120) (hh : h.data.toList = hLeft ∨ h.data.toList = hRight ∨ h.data.toList = hMid) :
    ∃ i j, i + j = wd - s.size ∧ padB s wd h = padded i s j := by
  rcases hh with hh | hh | hh
  · exact ⟨0, wd - s.size, by omega, by rw [padB_left hv h2 hh]; unfold padded; rw [sp0_app]⟩
  · exact ⟨wd - s.size, 0, by omega, by rw [padB_right hv h2 hh]; unfold padded; rw [app_sp0]⟩
  · exact ⟨(wd - s.size) / 2, wd - s.size - (wd - s.size) / 2, by omega, by rw [padB_mid hv h2 hh]; rfl⟩
theorem padOk_of {s : ByteArray} {a : Int} {how : ByteArray} (h : ¬ (padB s a how).size = 0) : PadOk s a how := by
  by_cases hv : validT s.data.toList = true
  · by_cases h1 : a < 0
    · rw [padB_no (.inr (.inl h1))] at h; exact absurd rfl h
    · by_cases h2 : 120 < a
      · rw [padB_no (.inr (.inr (.inl h2)))] at h; exact absurd rfl h
      · obtain ⟨wd, rfl⟩ := Int.eq_ofNat_of_zero_le (show 0 ≤ a by omega)
        by_cases hh : how.data.toList = hLeft ∨ how.data.toList = hRight ∨ how.data.toList = hMid
        · have hsz := validT_size hv
          obtain ⟨i, j, hij, e⟩ := padB_padded hv (show wd ≤ 120 by omega) hh
          have hv2 := padded_valid (i := i) (j := j) hv (by omega)
          obtain ⟨i2, j2, hij2, e2⟩ := padB_padded hv2 (show wd ≤ 120 by omega) hh
          have hps := padded_size i s j
          obtain rfl : i2 = 0 := by omega
          obtain rfl : j2 = 0 := by omega
          refine ⟨by omega, hv, ?_, ?_, ?_⟩
          · rw [e, hps, Int.toNat_natCast]; omega
          · rw [e]; exact padded_words hv (by omega)
          · rw [e, e2]; unfold padded; rw [sp0_app, app_sp0]
        · rw [padB_no (.inr (.inr (.inr ⟨fun x => hh (.inl x), fun x => hh (.inr (.inl x)), fun x => hh (.inr (.inr x))⟩)))] at h; exact absurd rfl h
  · rw [padB_no (.inl (by simpa using hv))] at h; exact absurd rfl h
end Go.Proofs.Ytadlelcckalcoaa.pl

