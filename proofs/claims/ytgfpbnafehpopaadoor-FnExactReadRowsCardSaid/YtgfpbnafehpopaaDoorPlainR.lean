/- Plain mathematics: spaces taken off at the ends; tabs put back. -/
import Derived.Test.YtgfpbnafehpopaaDoorPlainT
namespace Go.Proofs.YtgfpbnafehpopaaDoor.pl

/-- how many of the first n bytes are left without the spaces at their end -/
def rcut (l : List UInt8) : Nat → Nat
  | 0 => 0
  | n + 1 => if l[n]? = some 32 then rcut l n else n + 1
theorem rcut_le (l : List UInt8) : ∀ n, rcut l n ≤ n
  | 0 => Nat.le_refl _
  | n + 1 => by
    unfold rcut; split
    · have := rcut_le l n; omega
    · exact Nat.le_refl _
def rtrim (l : List UInt8) : List UInt8 := l.take (rcut l l.length)
theorem rcut_sp {l : List UInt8} {n : Nat} (h : l[n]? = some 32) : rcut l (n + 1) = rcut l n := by
  conv => lhs; unfold rcut
  rw [if_pos h]
theorem rcut_no {l : List UInt8} {n : Nat} (h : ¬ l[n]? = some 32) : rcut l (n + 1) = n + 1 := by
  conv => lhs; unfold rcut
  rw [if_neg h]
theorem get_some {s : ByteArray} {k : Nat} (h : k < s.size) : s.data.toList[k]? = some s[k] := by
  rw [List.getElem?_eq_getElem (by rw [len_eq]; exact h)]; rfl
theorem take_bs_get {s : ByteArray} {k i : Nat} (hk : k ≤ s.size) (hi : i < k) (h : i < (bs (s.data.toList.take k)).size) : (bs (s.data.toList.take k))[i] = s[i] := by
  have e : (bs (s.data.toList.take k)).data.toList = s.data.toList.take k := rfl
  have h1 : (bs (s.data.toList.take k)).data.toList[i]? = some (bs (s.data.toList.take k))[i] := get_some h
  rw [e, List.getElem?_take, if_pos hi, get_some (by omega)] at h1
  exact (Option.some.inj h1).symm
theorem get_cast {a b : ByteArray} (h : a = b) {i : Nat} (hi : i < a.size) : a[i] = b[i]'(by rw [← h]; exact hi) := by subst h; rfl
theorem take_size {s : ByteArray} {k : Nat} (hk : k ≤ s.size) : (bs (s.data.toList.take k)).size = k := by
  rw [bs_size, List.length_take, len_eq]; omega
theorem take_take {s : ByteArray} {k : Nat} : (bs (s.data.toList.take (k + 1))).extract 0 k = bs (s.data.toList.take k) := by
  apply ba_ext
  rw [Lib.extract_data, bs_data, bs_data, List.drop_zero, Nat.sub_zero, List.take_take]
  congr 1; omega
theorem take_full (s : ByteArray) : bs (s.data.toList.take s.size) = s := by
  rw [List.take_of_length_le (by rw [len_eq]; exact Nat.le_refl _)]; exact bs_self s
theorem rtrim_eq {s : ByteArray} {k : Nat} (h : rcut s.data.toList s.size = k) : bs (rtrim s.data.toList) = bs (s.data.toList.take k) := by
  unfold rtrim; rw [len_eq, h]

theorem rtrim_zero {s : ByteArray} (h : s.size = 0) : bs (rtrim s.data.toList) = s := by
  rw [rtrim_eq (k := 0) (by rw [h]; rfl)]
  rw [← h]; exact take_full s
/-- how many spaces stand ahead -/
def leadL : List UInt8 → Nat
  | [] => 0
  | c :: r => if c = 32 then leadL r + 1 else 0
theorem leadL_le : ∀ l, leadL l ≤ l.length
  | [] => Nat.le_refl _
  | c :: r => by
    unfold leadL; split
    · have := leadL_le r; simp; omega
    · simp

/-- a block as wide as a tab -/
def tb (b : List UInt8) : List UInt8 := if b.length - (rtrim b).length < 2 then b else rtrim b ++ [9]
def tabF (wd : Nat) : Nat → List UInt8 → List UInt8
  | 0, l => l
  | f + 1, l => if l.length < wd then l else tb (l.take wd) ++ tabF wd f (l.drop wd)
theorem tabF_short {wd f : Nat} {l : List UInt8} (h : l.length < wd) : tabF wd f l = l := by
  cases f with
  | zero => rfl
  | succ f => unfold tabF; rw [if_pos h]
theorem tabF_step {wd f : Nat} {l : List UInt8} (h : ¬ l.length < wd) : tabF wd (f + 1) l = tb (l.take wd) ++ tabF wd f (l.drop wd) := by
  conv => lhs; unfold tabF
  rw [if_neg h]
def tabL (wd : Nat) (l : List UInt8) : List UInt8 := tabF wd 120 l
theorem rtrim_len (b : List UInt8) : (rtrim b).length ≤ b.length := by unfold rtrim; rw [List.length_take]; omega
theorem tb_len (b : List UInt8) : (tb b).length ≤ b.length := by
  unfold tb; split
  · exact Nat.le_refl _
  · have := rtrim_len b; simp; omega
/-- TabText -/
def tabB' (s : ByteArray) (wd : Int) : ByteArray := if validT s.data.toList = true ∧ 2 ≤ wd ∧ wd ≤ 12 then bs (tabL wd.toNat s.data.toList) else bs []
theorem tabX_ok {s : ByteArray} {wd : Nat} (h : validT s.data.toList = true) (h1 : 2 ≤ wd) (h2 : wd ≤ 12) : tabB' s wd = bs (tabL wd s.data.toList) := by
  unfold tabB'; rw [if_pos ⟨h, by omega, by omega⟩, Int.toNat_natCast]
theorem tabX_no {s : ByteArray} {wd : Int} (h : validT s.data.toList = false ∨ wd < 2 ∨ 12 < wd) : tabB' s wd = bs [] := by
  unfold tabB'; rw [if_neg]; rintro ⟨h1, h2, h3⟩
  rcases h with h | h | h
  · rw [h] at h1; cases h1
  · omega
  · omega
end Go.Proofs.YtgfpbnafehpopaaDoor.pl
