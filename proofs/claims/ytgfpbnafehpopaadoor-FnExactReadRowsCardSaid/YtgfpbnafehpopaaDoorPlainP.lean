/- Plain mathematics: padded texts. -/
import Derived.Test.YtgfpbnafehpopaaDoorPlainT
namespace Go.Proofs.YtgfpbnafehpopaaDoor.pl

def hLeft : List UInt8 := [108, 101, 102, 116]
def hRight : List UInt8 := [114, 105, 103, 104, 116]
def hMid : List UInt8 := [109, 105, 100, 100, 108, 101]
/-- PadText of a text of at most the limits, n bytes missing -/
def padN (s : ByteArray) (n : Nat) (how : List UInt8) : ByteArray :=
  if how = hLeft then s ++ spB n else if how = hRight then spB n ++ s else spB (n / 2) ++ s ++ spB (n - n / 2)
def padB (s : ByteArray) (a : Int) (how : ByteArray) : ByteArray :=
  if validT s.data.toList = true ∧ 0 ≤ a ∧ a ≤ 120 ∧ (how.data.toList = hLeft ∨ how.data.toList = hRight ∨ how.data.toList = hMid) then padN s (a.toNat - s.size) how.data.toList else bs []
/-- the tests on a side's name, as the walk asks them -/
structure How (h : ByteArray) (l r m : Bool) : Prop where
  l : (h.toList == [108, 101, 102, 116]) = l
  r : (h.toList == [114, 105, 103, 104, 116]) = r
  m : (h.toList == [109, 105, 100, 100, 108, 101]) = m
theorem how_cases (h : ByteArray) : (h.data.toList = hLeft ∧ How h true false false) ∨ (h.data.toList = hRight ∧ How h false true false) ∨ (h.data.toList = hMid ∧ How h false false true) ∨ ((¬ h.data.toList = hLeft ∧ ¬ h.data.toList = hRight ∧ ¬ h.data.toList = hMid) ∧ How h false false false) := by
  have e : h.toList = h.data.toList := Lib.toList_data h
  by_cases h1 : h.data.toList = hLeft
  · exact .inl ⟨h1, by rw [e, h1]; rfl, by rw [e, h1]; rfl, by rw [e, h1]; rfl⟩
  · by_cases h2 : h.data.toList = hRight
    · exact .inr (.inl ⟨h2, by rw [e, h2]; rfl, by rw [e, h2]; rfl, by rw [e, h2]; rfl⟩)
    · by_cases h3 : h.data.toList = hMid
      · exact .inr (.inr (.inl ⟨h3, by rw [e, h3]; rfl, by rw [e, h3]; rfl, by rw [e, h3]; rfl⟩))
      · exact .inr (.inr (.inr ⟨⟨h1, h2, h3⟩, by rw [e]; exact beq_eq_false_iff_ne.2 h1, by rw [e]; exact beq_eq_false_iff_ne.2 h2, by rw [e]; exact beq_eq_false_iff_ne.2 h3⟩))
theorem padB_no {s : ByteArray} {a : Int} {h : ByteArray} (hn : validT s.data.toList = false ∨ a < 0 ∨ 120 < a ∨ (¬ h.data.toList = hLeft ∧ ¬ h.data.toList = hRight ∧ ¬ h.data.toList = hMid)) : padB s a h = bs [] := by
  unfold padB; rw [if_neg]; rintro ⟨h1, h2, h3, h4⟩
  rcases hn with hn | hn | hn | hn
  · rw [hn] at h1; cases h1
  · omega
  · omega
  · rcases h4 with h4 | h4 | h4
    · exact hn.1 h4
    · exact hn.2.1 h4
    · exact hn.2.2 h4
theorem padB_left {s : ByteArray} {wd : Nat} {h : ByteArray} (hv : validT s.data.toList = true) (h2 : wd ≤ 120) (hh : h.data.toList = hLeft) : padB s wd h = s ++ spB (wd - s.size) := by
  unfold padB; rw [if_pos ⟨hv, by omega, by omega, .inl hh⟩, hh, Int.toNat_natCast]; rfl
theorem padB_right {s : ByteArray} {wd : Nat} {h : ByteArray} (hv : validT s.data.toList = true) (h2 : wd ≤ 120) (hh : h.data.toList = hRight) : padB s wd h = spB (wd - s.size) ++ s := by
  unfold padB; rw [if_pos ⟨hv, by omega, by omega, .inr (.inl hh)⟩, hh, Int.toNat_natCast]; rfl
theorem padB_mid {s : ByteArray} {wd : Nat} {h : ByteArray} (hv : validT s.data.toList = true) (h2 : wd ≤ 120) (hh : h.data.toList = hMid) : padB s wd h = spB ((wd - s.size) / 2) ++ s ++ spB (wd - s.size - (wd - s.size) / 2) := by
  unfold padB; rw [if_pos ⟨hv, by omega, by omega, .inr (.inr hh)⟩, hh, Int.toNat_natCast]; rfl
theorem app_sp0 (s : ByteArray) : s ++ spB 0 = s := ba_ext (by rw [ByteArray.data_append, Array.toList_append]; show _ ++ [] = _; simp)
theorem sp0_app (s : ByteArray) : spB 0 ++ s = s := ba_ext (by rw [ByteArray.data_append, Array.toList_append]; rfl)
end Go.Proofs.YtgfpbnafehpopaaDoor.pl
