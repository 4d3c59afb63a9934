/- Contract: unquoteCell. -/
import Derived.Test.YtpfheanpbbfpdaaDoorPkE
import Derived.Test.YtpfheanpbbfpdaaDoorQuot
namespace Go.Proofs.YtpfheanpbbfpdaaDoor
open Go.RowKit
set_option maxRecDepth 100000
set_option linter.unusedVariables false

namespace pl
theorem head_size {s : ByteArray} (h : s.data.toList.head? = some 34) : 1 ≤ s.size := by
  rw [← len_eq]
  cases hl : s.data.toList with
  | nil => rw [hl] at h; simp at h
  | cons c r => simp
theorem tail_ex {s : ByteArray} : s.extract 1 s.size = bs s.data.toList.tail := by
  rw [ex_bs]
  unfold seg
  rw [List.take_of_length_le (by rw [List.length_drop, len_eq]; exact Nat.le_refl _), List.drop_one]
theorem prefix_head (s : ByteArray) : Lib.hasPrefix s.data.toList [34] = decide (s.data.toList.head? = some 34) := by
  unfold Lib.hasPrefix
  cases s.data.toList with
  | nil => rfl
  | cons c r =>
    by_cases h : c = 34
    · subst h; simp [List.isPrefixOf]
    · simp [List.isPrefixOf, h]; exact fun e => h e.symm
theorem trimSuffix_len (l : List UInt8) : (Lib.trimSuffix l [34]).length ≤ l.length := by
  unfold Lib.trimSuffix; split
  · rw [List.length_take]; omega
  · exact Nat.le_refl _
theorem raG_un_len : ∀ (n : Nat) (l : List UInt8), l.length ≤ n → (raG [34, 34] [34] 0 l).length ≤ l.length
  | n, [], _ => by simp [raG]
  | 0, c :: r, h => by simp at h
  | n + 1, c :: r, h => by
    by_cases hp : ([34, 34] : List UInt8).isPrefixOf (c :: r) = true
    · rw [raG_hit (by simp) hp, List.length_append]
      have h2 : ((c :: r).drop ([34, 34] : List UInt8).length).length ≤ n := by rw [List.length_drop]; simp at h ⊢; omega
      have := raG_un_len n _ h2
      rw [List.length_drop] at this
      cases r with
      | nil => simp [List.isPrefixOf] at hp
      | cons d r => simp at this ⊢; omega
    · rw [raG_miss (Bool.eq_false_iff.2 hp)]
      have := raG_un_len n r (by simpa using h)
      simpa using this
theorem unqC_len (l : List UInt8) : (unqC l).length ≤ l.length := by
  unfold unqC
  split
  · have h1 := raG_un_len _ (Lib.trimSuffix l.tail [34]) (Nat.le_refl _)
    have h2 := trimSuffix_len l.tail
    rw [List.length_tail] at h2
    omega
  · exact Nat.le_refl _
def unqB (s : ByteArray) : ByteArray := bs (unqC s.data.toList)
theorem unqB_size (s : ByteArray) : (unqB s).size ≤ s.size := by
  have := unqC_len s.data.toList
  rw [len_eq] at this
  exact this
theorem unqB_yes {s : ByteArray} (h : s.data.toList.head? = some 34) : bs (raG [34, 34] [34] 0 (Lib.trimSuffix s.data.toList.tail [34])) = unqB s := by
  unfold unqB unqC; rw [if_pos h]
theorem unqB_no {s : ByteArray} (h : ¬ s.data.toList.head? = some 34) : s = unqB s := by
  unfold unqB unqC; rw [if_neg h]; rfl
end pl

theorem replU_any (s : ByteArray) (w : World) (hs : s.size ≤ 1100000) (hm : MaxI w) :
    Calls Tryd.prog 112 #[.string s, .string ⟨#[34, 34]⟩, .string ⟨#[34]⟩] w fun e w' => e = .returned (.string (pl.bs (pl.raG [34, 34] [34] 0 s.data.toList))) ∧ Below w.heap.size w w' := by
  obtain ⟨_, m, hm⟩ := hm
  have hc : Lib.countB s ⟨#[34, 34]⟩ ≤ s.size := by
    have := Lib.countB_mul_le ⟨#[34, 34]⟩ (by decide) s.size s (Nat.le_refl _)
    have e : (⟨#[34, 34]⟩ : ByteArray).size = 2 := rfl
    rw [e] at this
    omega
  refine (Tryd.strings_ReplaceAll s ⟨#[34, 34]⟩ ⟨#[34]⟩ m w (by omega) hm (by decide) (by show s.size + Lib.countB s ⟨#[34, 34]⟩ * 1 ≤ _; omega)).mono ?_
  rintro e w' ⟨rfl, hb⟩
  exact ⟨by rw [← pl.replaceAll_raG (by simp) (by simp)]; rfl, hb⟩

def CutP (s t : ByteArray) (b : Bool) : Prop := (s.data.toList.head? = some 34 ∧ b = true ∧ t = s.extract 1 s.size) ∨ (¬ s.data.toList.head? = some 34 ∧ b = false ∧ t = s)
set_option maxHeartbeats 400000 in
theorem slCutPrefix (s t : ByteArray) (b : Bool) (h : CutP s t b) (w : World) :
    Calls Tryd.prog 141 #[.string s, .string ⟨#[34]⟩] w fun e w' => e = .returned (.tuple #[.string t, .bool b]) ∧ w = w' := by
  rcases h with ⟨h, rfl, rfl⟩ | ⟨h, rfl, rfl⟩
  · have h1 := pl.head_size h
    have hd : Lib.hasPrefix s.data.toList (⟨#[34]⟩ : ByteArray).data.toList = true := (pl.prefix_head s).trans (decide_eq_true h)
    clear h
    go_enter Tryd.func141, Tryd.ntmps141
    go_wp2_with fail
    refine (Tryd.stringslite_HasPrefix s ⟨#[34]⟩ _).mono ?_
    rintro e w' ⟨rfl, rfl⟩
    rw [hd]
    go_wp2_with fail
    go_ret2
    exact ⟨rfl, rfl⟩
  · have hd : Lib.hasPrefix t.data.toList (⟨#[34]⟩ : ByteArray).data.toList = false := (pl.prefix_head t).trans (decide_eq_false h)
    clear h
    go_enter Tryd.func141, Tryd.ntmps141
    go_wp2_with fail
    refine (Tryd.stringslite_HasPrefix t ⟨#[34]⟩ _).mono ?_
    rintro e w' ⟨rfl, rfl⟩
    rw [hd]
    go_wp2_with fail
    go_ret2
    exact ⟨rfl, rfl⟩

set_option maxHeartbeats 400000 in
theorem cutPrefix_any (s t : ByteArray) (b : Bool) (h : CutP s t b) (w : World) :
    Calls Tryd.prog 111 #[.string s, .string ⟨#[34]⟩] w fun e w' => e = .returned (.tuple #[.string t, .bool b]) ∧ w = w' := by
  have HC := Lib.hid (slCutPrefix s t b h w)
  clear h
  go_enter Tryd.func111, Tryd.ntmps111
  go_wp2_with fail
  refine HC.out.mono ?_
  rintro e w' ⟨rfl, rfl⟩
  go_wp2_with fail
  go_ret2
  exact ⟨rfl, rfl⟩

set_option maxHeartbeats 400000 in
theorem unquoteCell_any (s : ByteArray) (w : World) (hs : s.size ≤ 1100000) (hm : MaxI w) :
    Calls Tryd.prog 68 #[.string s] w fun e w' => e = .returned (.string (pl.unqB s)) ∧ Below w.heap.size w w' := by
  have HM := Lib.hid hm
  clear hm
  by_cases h : s.data.toList.head? = some 34
  · have hc := cutPrefix_any s _ true (.inl ⟨h, rfl, rfl⟩) w
    rw [pl.tail_ex] at hc
    have HC := Lib.hid hc
    have HR := Lib.hid (pl.unqB_yes h)
    have hts : (pl.bs s.data.toList.tail).size ≤ s.size := by show s.data.toList.tail.length ≤ _; rw [List.length_tail, pl.len_eq]; omega
    obtain ⟨t, HT⟩ : ∃ t, Hid (pl.bs s.data.toList.tail = t) := ⟨_, Lib.hid rfl⟩
    have HTD : Hid (s.data.toList.tail = t.data.toList) := Lib.hid (by rw [← HT.out, pl.bs_data])
    rw [HT.out] at HC hts
    rw [HTD.out] at HR
    clear h hc
    go_enter Tryd.func68, Tryd.ntmps68
    go_wp2_with fail
    refine HC.out.mono ?_
    rintro e w' ⟨rfl, rfl⟩
    go_wp2_with fail
    refine (Tryd.strings_TrimSuffix t ⟨#[34]⟩ _ (by omega)).mono ?_
    rintro e w' ⟨rfl, rfl⟩
    have hus : (⟨(Lib.trimSuffix t.data.toList (⟨#[34]⟩ : ByteArray).data.toList).toArray⟩ : ByteArray).size ≤ t.size := by
      have := pl.trimSuffix_len t.data.toList
      rw [pl.len_eq] at this
      exact this
    obtain ⟨u, HU⟩ : ∃ u, Hid ((⟨(Lib.trimSuffix t.data.toList (⟨#[34]⟩ : ByteArray).data.toList).toArray⟩ : ByteArray) = u) := ⟨_, Lib.hid rfl⟩
    have HUD : Hid (Lib.trimSuffix t.data.toList [34] = u.data.toList) := Lib.hid (by rw [← HU.out])
    rw [HU.out] at hus ⊢
    rw [HUD.out] at HR
    go_wp2_with fail
    refine (replU_any u _ (by omega) HM.out).mono ?_
    rintro e w' ⟨rfl, hb⟩
    have HB := Lib.hid hb
    clear hb
    go_wp2_with fail
    go_ret
    exact ⟨by rw [← HR.out]; rfl, HB.out⟩
  · have hc := cutPrefix_any s _ false (.inr ⟨h, rfl, rfl⟩) w
    have HC := Lib.hid hc
    have HR := Lib.hid (pl.unqB_no h)
    clear h hc
    go_enter Tryd.func68, Tryd.ntmps68
    go_wp2_with fail
    refine HC.out.mono ?_
    rintro e w' ⟨rfl, rfl⟩
    go_wp2_with fail
    go_ret
    exact ⟨by rw [← HR.out]; rfl, Below.refl _ _⟩
end Go.Proofs.YtpfheanpbbfpdaaDoor
