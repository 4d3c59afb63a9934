/- Plain mathematics: lines without their margin, and with spaces ahead. -/
import Derived.Test.YtgfpbnafehpopaaPlainM
import Derived.Test.YtgfpbnafehpopaaPlainT
import Derived.Test.YtgfpbnafehpopaaMark
namespace Go.Proofs.Ytgfpbnafehpopaa.pl

def ebS (s : ByteArray) : ByteArray := if s.size ≤ ld s then ⟨#[]⟩ else s
def tkS (m : Nat) (s : ByteArray) : ByteArray := if s.size = 0 then ⟨#[]⟩ else bs (s.data.toList.drop m)
def ptS (m : Nat) (s : ByteArray) : ByteArray := if s.size = 0 then ⟨#[]⟩ else spB m ++ s
def ded (l : List ByteArray) (m : Nat) : List ByteArray := l.map fun s => tkS m (ebS s)
def ind (l : List ByteArray) (m : Nat) : List ByteArray := l.map fun s => ptS m (ebS s)
def dedR (l : List ByteArray) : List ByteArray := if validLs l = true then ded l (marginL l).toNat else []
theorem dedR_ok {l : List ByteArray} (h : validLs l = true) : dedR l = ded l (marginL l).toNat := by simp [dedR, h]
theorem dedR_no {l : List ByteArray} (h : validLs l = false) : dedR l = [] := by simp [dedR, h]
theorem ebS_yes {s : ByteArray} (h : s.size ≤ ld s) : ebS s = ⟨#[]⟩ := by simp [ebS, h]
theorem ebS_no {s : ByteArray} (h : ¬ s.size ≤ ld s) : ebS s = s := by simp [ebS, h]
theorem tkS_yes {m : Nat} {s : ByteArray} (h : s.size = 0) : tkS m s = ⟨#[]⟩ := by simp [tkS, h]
theorem tkS_no {m : Nat} {s : ByteArray} (h : ¬ s.size = 0) : tkS m s = bs (s.data.toList.drop m) := by simp [tkS, h]
theorem ptS_yes {m : Nat} {s : ByteArray} (h : s.size = 0) : ptS m s = ⟨#[]⟩ := by simp [ptS, h]
theorem ptS_no {m : Nat} {s : ByteArray} (h : ¬ s.size = 0) : ptS m s = spB m ++ s := by simp [ptS, h]
theorem ebS_size (s : ByteArray) : (ebS s).size ≤ s.size := by
  unfold ebS; split
  · exact Nat.zero_le _
  · exact Nat.le_refl _
theorem tkS_size (m : Nat) (s : ByteArray) : (tkS m s).size ≤ s.size := by
  unfold tkS; split
  · exact Nat.zero_le _
  · rw [drop_size]; omega
theorem ptS_size (m : Nat) (s : ByteArray) : (ptS m s).size ≤ s.size + m := by
  unfold ptS; split
  · exact Nat.zero_le _
  · rw [ByteArray.size_append, spB_size]; omega
theorem ex_drop {s : ByteArray} {k : Nat} : s.extract k s.size = bs (s.data.toList.drop k) := by
  apply ba_ext
  rw [Lib.extract_data, bs_data, List.take_of_length_le]
  rw [List.length_drop, len_eq]; exact Nat.le_refl _
/-- what the line becomes, said at once -/
theorem ded_blank {m : Nat} {s : ByteArray} (h : s.size ≤ ld s) : tkS m (ebS s) = ⟨#[]⟩ := by rw [ebS_yes h]; exact tkS_yes rfl
theorem ded_full {m : Nat} {s : ByteArray} (h : ¬ s.size ≤ ld s) : tkS m (ebS s) = bs (s.data.toList.drop m) := by rw [ebS_no h]; exact tkS_no (by omega)
theorem ind_blank {m : Nat} {s : ByteArray} (h : s.size ≤ ld s) : ptS m (ebS s) = ⟨#[]⟩ := by rw [ebS_yes h]; exact ptS_yes rfl
theorem ind_full {m : Nat} {s : ByteArray} (h : ¬ s.size ≤ ld s) : ptS m (ebS s) = spB m ++ s := by rw [ebS_no h]; exact ptS_no (by omega)

/-- the margin is no more than any line's spaces ahead -/
theorem mTo_le {l : List ByteArray} {k : Nat} (hk : k < l.length) (hb : ld (nth l k) < (nth l k).size) : ∀ j, k < j → j ≤ l.length → 0 ≤ mTo l j ∧ mTo l j ≤ ld (nth l k)
  | 0, h, _ => absurd h (by omega)
  | j + 1, h, hj => by
    rw [mTo_succ (by omega)]
    by_cases e : j = k
    · subst e
      unfold stepM; split <;> omega
    · have := mTo_le hk hb j (by omega) (by omega)
      unfold stepM; split <;> omega
theorem margin_le {l : List ByteArray} {k : Nat} (hk : k < l.length) (hb : ld (nth l k) < (nth l k).size) : (marginL l).toNat ≤ ld (nth l k) := by
  have := mTo_le hk hb l.length hk (Nat.le_refl _)
  unfold marginL; omega
theorem margin_nat (l : List ByteArray) : (((marginL l).toNat : Nat) : Int) = marginL l := by
  unfold marginL; omega
theorem margin_fit {l : List ByteArray} {k : Nat} (hk : k < l.length) : (ebS (nth l k)).size = 0 ∨ (marginL l).toNat ≤ (ebS (nth l k)).size := by
  by_cases h : (nth l k).size ≤ ld (nth l k)
  · exact .inl (by rw [ebS_yes h]; rfl)
  · right
    rw [ebS_no h]
    have := margin_le hk (by omega)
    have := ld_le (nth l k); omega

theorem ded_len (l : List ByteArray) (m : Nat) : (ded l m).length = l.length := by simp [ded]
theorem ind_len (l : List ByteArray) (m : Nat) : (ind l m).length = l.length := by simp [ind]
theorem nth_ded {l : List ByteArray} {m k : Nat} (h : k < l.length) : nth (ded l m) k = tkS m (ebS (nth l k)) := by
  rw [nth_eq (by rw [ded_len]; exact h), nth_eq h]; simp [ded]
theorem nth_ind {l : List ByteArray} {m k : Nat} (h : k < l.length) : nth (ind l m) k = ptS m (ebS (nth l k)) := by
  rw [nth_eq (by rw [ind_len]; exact h), nth_eq h]; simp [ind]

/-- the first k lines changed, the others as they were -/
def chg (g : ByteArray → ByteArray) (l l' : List ByteArray) (k : Nat) : Prop := l'.length = l.length ∧ (∀ i, i < k → i < l.length → nth l' i = g (nth l i)) ∧ ∀ i, k ≤ i → i < l.length → nth l' i = nth l i
theorem chg_zero (g : ByteArray → ByteArray) (l : List ByteArray) : chg g l l 0 := ⟨rfl, fun i h => absurd h (by omega), fun _ _ _ => rfl⟩
theorem chg_at {g : ByteArray → ByteArray} {l l' : List ByteArray} {k : Nat} (h : chg g l l' k) (hk : k < l.length) : nth l' k = nth l k := h.2.2 k (Nat.le_refl _) hk
theorem chg_succ {g : ByteArray → ByteArray} {l l' : List ByteArray} {k : Nat} (h : chg g l l' k) (hk : k < l.length) (y : ByteArray) {x : ByteArray} (hx : x = g (nth l k)) : chg g l ((l'.set k y).set k x) (k + 1) := by
  obtain ⟨h1, h2, h3⟩ := h
  refine ⟨by simp [h1], fun i hi hl => ?_, fun i hi hl => ?_⟩
  · by_cases e : i = k
    · subst e; rw [nth_set_same (by simp [h1, hl]), hx]
    · rw [nth_set_other (by simp [h1, hl]) e, nth_set_other (by simp [h1, hl]) e]; exact h2 i (by omega) hl
  · rw [nth_set_other (by simp [h1, hl]) (by omega), nth_set_other (by simp [h1, hl]) (by omega)]; exact h3 i (by omega) hl
theorem chg_all {g : ByteArray → ByteArray} {l l' : List ByteArray} (h : chg g l l' l.length) : l' = l.map g := by
  apply nth_ext (by simp [h.1])
  intro i hi
  have hi' : i < l.length := by rw [← h.1]; exact hi
  rw [h.2.1 i hi' hi', nth_eq hi', nth_eq (by simp [hi'])]; simp
end Go.Proofs.Ytgfpbnafehpopaa.pl
