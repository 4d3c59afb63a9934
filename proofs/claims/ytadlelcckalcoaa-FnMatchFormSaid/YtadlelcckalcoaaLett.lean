/- Contracts: isLetter, areLetters of the program. -/
import Derived.Test.YtadlelcckalcoaaPlainFp
import Derived.Test.YtadlelcckalcoaaValid
namespace Go.Proofs.Ytadlelcckalcoaa
open Go.RowKit
set_option maxRecDepth 100000
set_option linter.unusedVariables false

namespace pl
theorem nameC_lt {c : UInt8} (h : nameC c = true) : 97 ≤ c.toNat ∧ c.toNat ≤ 122 := by simpa [nameC] using h
theorem nameC_no {c : UInt8} (h : nameC c = false) : c.toNat < 97 ∨ 122 < c.toNat := by
  unfold nameC at h
  rw [Bool.and_eq_false_iff, decide_eq_false_iff_not, decide_eq_false_iff_not] at h
  omega
/-- from one to n letters -/
def lettersB (s : ByteArray) (n : Nat) : Bool := inR s.size 1 n && s.data.toList.all nameC
theorem lettersB_name (s : ByteArray) : lettersB s 8 = nameB s.data.toList := by rw [nameB_def, len_eq]; rfl
theorem letters_all {s : ByteArray} {n : Nat} (h : nameTo s s.size) (h1 : ¬ s.size = 0) (h2 : s.size ≤ n) : lettersB s n = true := by
  unfold lettersB
  rw [inR_true (by omega) (by omega), Bool.true_and, List.all_eq_true]
  intro c hc
  obtain ⟨i, hi, rfl⟩ := List.getElem_of_mem hc
  exact h i (by simpa using hi) (by simpa using hi)
theorem letters_bad {s : ByteArray} {n k : Nat} (hk : k < s.size) (hc : nameC s[k] = false) : lettersB s n = false := by
  have : s.data.toList.all nameC = false := by
    rw [List.all_eq_false]
    exact ⟨s[k], by
      have : s[k] = s.data.toList[k]'(by simpa using hk) := rfl
      rw [this]; exact List.getElem_mem _, by simp [hc]⟩
  unfold lettersB
  rw [this, Bool.and_false]
theorem letters_size {s : ByteArray} {n : Nat} (h : s.size = 0 ∨ n < s.size) : lettersB s n = false := by
  unfold lettersB
  rw [inR_false (by omega)]; rfl
theorem decode_letter {s : ByteArray} {k : Nat} (hk : k < s.size) (hp : nameC s[k] = true) : Utf8.decode s k = ((s[k]'hk).toNat, 1) :=
  decode_ascii s k hk (by have := nameC_lt hp; omega)
theorem decode_noLetter {s : ByteArray} {k : Nat} (hk : k < s.size) (hp : nameC s[k] = false) : inR ((Utf8.decode s k).1 : Int) 97 122 = false := by
  by_cases h : (s[k]'hk).toNat < 128
  · rw [decode_ascii s k hk h, ← hp]
    exact inR_name _
  · have := (decode_high s k hk (by omega)).1
    exact inR_false (.inr (by omega))
end pl

theorem isLetter_any (r : Int) (w : World) :
    Calls Try.prog 119 #[.int .i32 r] w fun e w' => e = .returned (.bool (pl.inR r 97 122)) ∧ w = w' := by
  by_cases h1 : 97 ≤ r
  · go_enter Try.func119, Try.ntmps119
    go_wp2
    go_ret
    exact ⟨by simp [pl.inR, h1], rfl⟩
  · have h1' : r < 97 := by omega
    go_enter Try.func119, Try.ntmps119
    go_wp2
    go_ret
    exact ⟨ret_b (pl.inR_false (.inl h1')).symm, rfl⟩

set_option maxHeartbeats 1000000 in
theorem areLetters_any (s : ByteArray) (m : Int) (n : Nat) (hm : m = n) (hn : n ≤ 1000) (w : World) (hs : s.size ≤ maxLen) :
    Calls Try.prog 111 #[.string s, .int .i64 m] w fun e w' => e = .returned (.bool (pl.lettersB s n)) ∧ Below w.heap.size w w' := by
  subst hm
  unfold maxLen at hs
  by_cases h0 : s.size = 0
  · have hb := Lib.hid (pl.letters_size (s := s) (n := n) (.inl h0))
    have he := pl.empty_of h0
    clear h0
    go_enter Try.func111, Try.ntmps111
    go_wp2
    go_ret
    exact ⟨ret_b hb.out.symm, Below.refl _ _⟩
  · have he := pl.nonempty_of h0
    have H0 := Lib.hid h0
    by_cases hlong : n < s.size
    · have hb := Lib.hid (pl.letters_size (s := s) (n := n) (.inr hlong))
      have hli : (n : Int) < (s.size : Int) := by omega
      clear h0
      go_enter Try.func111, Try.ntmps111
      go_wp2
      go_ret
      exact ⟨ret_b hb.out.symm, Below.refl _ _⟩
    · have hli : ¬ (n : Int) < (s.size : Int) := by omega
      have HL : Hid (s.size ≤ n) := Lib.hid (by omega)
      clear h0
      go_enter Try.func111, Try.ntmps111
      go_wp2
      go_loopw [6] (fun _ w' => ∃ pos : Nat, w' = w.iter s pos ∧ pos ≤ s.size ∧ pl.nameTo s pos) (fun _ w' => s.size - w'.iterPos w.heap.size)
      case atStart => exact ⟨0, rfl, Nat.zero_le _, pl.nameTo_zero s⟩
      case round =>
        obtain ⟨k, rfl, hk, hall⟩ := hrel
        by_cases hlt : k < s.size
        · have hnx : ∀ ty, (Instr.next (.pointer (some ⟨w.heap.size, 0, none⟩)) true ty).run Try.prog (w.iter s k) = _ := fun ty => run_next_any w s k ty hlt
          cases hp : pl.nameC s[k] with
          | true =>
            rw [pl.decode_letter hlt hp] at hnx
            have hin : pl.inR (s[k].toNat : Int) 97 122 = true := (pl.inR_name _).trans hp
            have hnext := Lib.hid (pl.nameTo_succ hall hlt hp)
            clear hall hp
            go_wp2_with (go_at_call 119; refine (isLetter_any _ _).mono ?_; rintro e w' ⟨rfl, rfl⟩)
            go_roundw
            case rel => exact ⟨k + 1, rfl, by omega, hnext.out⟩
            case measure => simp; omega
          | false =>
            have hb := Lib.hid (pl.letters_bad (n := n) hlt hp)
            have hin : pl.inR ((Utf8.decode s k).1 : Int) 97 122 = false := pl.decode_noLetter hlt hp
            clear hall hp
            go_wp2_with (go_at_call 119; refine (isLetter_any _ _).mono ?_; rintro e w' ⟨rfl, rfl⟩)
            go_ret
            exact ⟨ret_b hb.out.symm, (Below.refl _ _).alloc (Nat.le_refl _) _⟩
        · obtain rfl : k = s.size := by omega
          have hnx : ∀ ty, (Instr.next (.pointer (some ⟨w.heap.size, 0, none⟩)) true ty).run Try.prog (w.iter s s.size) = _ := fun ty => run_next_end w s s.size ty hlt
          have hb := Lib.hid (pl.letters_all hall H0.out HL.out)
          clear hall
          go_wp2
          go_ret
          exact ⟨ret_b hb.out.symm, (Below.refl _ _).alloc (Nat.le_refl _) _⟩
end Go.Proofs.Ytadlelcckalcoaa
