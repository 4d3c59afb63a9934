/- Contracts: brackets doubled, by both sides; EscapeForm. -/
import Derived.Test.YtadlelcckalcoaaDoorPkD
import Derived.Test.YtadlelcckalcoaaDoorPkC
import Derived.Test.YtadlelcckalcoaaDoorQuot
namespace Go.Proofs.YtadlelcckalcoaaDoor
open Go.RowKit
set_option maxRecDepth 100000
set_option linter.unusedVariables false

namespace pl
def dblAt (a c : UInt8) : List UInt8 := if c = a then [a, a] else [c]
theorem raG_at (a : UInt8) : ∀ l : List UInt8, raG [a] [a, a] 0 l = l.flatMap (dblAt a)
  | [] => rfl
  | c :: r => by
    rw [List.flatMap_cons]
    by_cases h : c = a
    · subst h
      rw [raG_hit (by simp) (by simp [List.isPrefixOf])]
      show [c, c] ++ raG [c] [c, c] 0 r = _
      rw [raG_at c r]; simp [dblAt]
    · rw [raG_miss (by simp [List.isPrefixOf]; exact fun e => h e.symm), raG_at a r]; simp [dblAt, h]
theorem repl_at (a : UInt8) (l : List UInt8) : Lib.replaceAll l [a] [a, a] = l.flatMap (dblAt a) := by
  rw [replaceAll_raG (by simp) (by simp), raG_at]
theorem dbl_both (l : List UInt8) : (l.flatMap (dblAt 123)).flatMap (dblAt 125) = dblB l := by
  unfold dblB
  rw [List.flatMap_assoc]
  congr 1
  funext c
  by_cases h : c = 123
  · subst h; rfl
  · by_cases h2 : c = 125
    · subst h2; rfl
    · simp [dblAt, dblK, isBr, h, h2]
theorem dblAt_len (a : UInt8) : ∀ l : List UInt8, (l.flatMap (dblAt a)).length ≤ 2 * l.length
  | [] => by simp
  | c :: r => by
    have := dblAt_len a r
    rw [List.flatMap_cons, List.length_append, List.length_cons]
    have : (dblAt a c).length ≤ 2 := by unfold dblAt; split <;> simp
    omega
def dblTK (s : ByteArray) (k : Nat) : List UInt8 := dblB (s.data.toList.take k)
theorem dblTK_all (s : ByteArray) : dblTK s s.size = dblB s.data.toList := by
  unfold dblTK; rw [List.take_of_length_le (by rw [len_eq]; exact Nat.le_refl _)]
theorem dblTK_succ {s : ByteArray} {k : Nat} (h : k < s.size) : dblTK s (k + 1) = dblTK s k ++ dblK s[k] := by
  unfold dblTK; rw [take_snoc h, dblB_append]; simp [dblB]
theorem dblTK_two {s : ByteArray} {k : Nat} (h : k < s.size) (hb : isBr s[k] = true) : dblTK s (k + 1) = dblTK s k ++ [s[k]] ++ [s[k]] := by rw [dblTK_succ h, dblK_br hb]; simp
theorem dblTK_one {s : ByteArray} {k : Nat} (h : k < s.size) (hb : isBr s[k] = false) : dblTK s (k + 1) = dblTK s k ++ [s[k]] := by rw [dblTK_succ h, dblK_no hb]
theorem dblTK_len {s : ByteArray} {k : Nat} (h : k ≤ s.size) : (dblTK s k).length ≤ 2 * s.size := by
  have := (dblB_len (s.data.toList.take k)).1
  have h2 : (s.data.toList.take k).length ≤ s.size := by rw [List.length_take, len_eq]; omega
  unfold dblTK; omega
theorem dblS_size (s : ByteArray) : (bs (dblB s.data.toList)).size ≤ 2 * s.size := by
  have := (dblB_len s.data.toList).1
  rw [len_eq] at this
  exact this
/-- EscapeForm -/
def escR (s : ByteArray) : ByteArray := if validT (dblB s.data.toList) = true then bs (dblB s.data.toList) else bs []
theorem escR_no {s : ByteArray} (h : validT (dblB s.data.toList) = false) : escR s = bs [] := by simp [escR, h]
theorem escR_yes {s : ByteArray} (h : validT (dblB s.data.toList) = true) : escR s = bs (dblB s.data.toList) := by simp [escR, h]
end pl

set_option maxHeartbeats 1000000 in
theorem replK_any (a : UInt8) (x y s : ByteArray) (hx : x = ⟨#[a]⟩) (hy : y = ⟨#[a, a]⟩) (w : World) (hs : s.size ≤ 10000000) (hm : MaxI w) :
    Calls Tryd.prog 65 #[.string s, .string x, .string y] w fun e w' => e = .returned (.string (pl.bs (s.data.toList.flatMap (pl.dblAt a)))) ∧ Below w.heap.size w w' := by
  obtain ⟨_, m, hm⟩ := hm
  subst hx hy
  have hc : Lib.countB s ⟨#[a]⟩ ≤ s.size := by
    have := Lib.countB_mul_le ⟨#[a]⟩ (by show 1 ≤ 1; omega) s.size s (Nat.le_refl _)
    have e : (⟨#[a]⟩ : ByteArray).size = 1 := rfl
    rw [e] at this
    omega
  refine (Tryd.strings_ReplaceAll s ⟨#[a]⟩ ⟨#[a, a]⟩ m w (by omega) hm (by show 1 ≤ 1; omega) (by show s.size + Lib.countB s ⟨#[a]⟩ * 2 ≤ _; omega)).mono ?_
  rintro e w' ⟨rfl, hb⟩
  exact ⟨by rw [← pl.repl_at]; rfl, hb⟩

set_option maxHeartbeats 1000000 in
theorem dblI_any (s : ByteArray) (w : World) (hs : s.size ≤ 1048576) (hm : MaxI w) :
    Calls Tryd.prog 38 #[.string s] w fun e w' => e = .returned (.string (pl.bs (pl.dblB s.data.toList))) ∧ Below w.heap.size w w' := by
  have HM := Lib.hid hm
  clear hm
  have hl := pl.dblAt_len 123 s.data.toList
  rw [pl.len_eq] at hl
  go_enter Tryd.func38, Tryd.ntmps38
  go_wp2_with fail
  refine (replK_any 123 _ _ s rfl rfl _ (by omega) HM.out).mono ?_
  rintro e w1 ⟨rfl, hb1⟩
  have HB1 := Lib.hid hb1
  have HM1 := Lib.hid (HM.out.below (Nat.le_refl _) hb1)
  clear hb1
  go_wp2_with fail
  refine (replK_any 125 _ _ (pl.bs (s.data.toList.flatMap (pl.dblAt 123))) rfl rfl _ (by show (s.data.toList.flatMap (pl.dblAt 123)).length ≤ _; omega) HM1.out).mono ?_
  rintro e w2 ⟨rfl, hb2⟩
  have HB2 := Lib.hid (HB1.out.trans (hb2.mono HB1.out.size))
  have HE := Lib.hid (pl.dbl_both s.data.toList)
  clear hb2
  go_wp2_with fail
  go_ret
  exact ⟨by rw [pl.bs_data, HE.out]; rfl, HB2.out⟩

set_option maxHeartbeats 1000000 in
theorem dblS_any (s : ByteArray) (w : World) (hs : s.size ≤ 1048576) :
    Calls Tryd.prog 48 #[.string s] w fun e w' => e = .returned (.string (pl.bs (pl.dblB s.data.toList))) ∧ w' = w := by
  go_enter Tryd.func48, Tryd.ntmps48
  go_wp2_with fail
  go_loop [3, 4] (fun ov iv => ∃ k : Nat, k ≤ s.size ∧ iv = .int .i64 k ∧ ov = .string (pl.bs (pl.dblTK s k))) (fun _ iv => s.size - (intOf iv).toNat)
  case atStart => exact ⟨0, Nat.zero_le _, rfl, rfl⟩
  case round =>
    obtain ⟨k, hk, rfl, rfl⟩ := hrel
    have hol := pl.dblTK_len hk
    obtain ⟨o, HO⟩ : ∃ o, Hid (pl.dblTK s k = o) := ⟨_, Lib.hid rfl⟩
    rw [HO.out] at hol ⊢
    have hosz : (pl.bs o).size ≤ 3000000 := by show o.length ≤ _; omega
    by_cases hlt : k < s.size
    · have hex : (s.extract k (k + 1)).size ≤ 1 := by rw [pl.ex_bs, pl.bs_size, pl.seg_len (by omega)]; omega
      have hwr : IntKind.i64.wrap ((k : Int) + 1) = (k : Int) + 1 := by rw [IntKind.wrap_i64]; omega
      have hes := Lib.hid (pl.bs_one o hlt)
      have hes2 := Lib.hid (pl.bs_one (o ++ [s[k]]) hlt)
      have hz2 : (pl.bs o ++ s.extract k (k + 1)).size ≤ 3000001 := by rw [ByteArray.size_append]; omega
      by_cases e1 : s[k] = 123
      · have g1 : (s[k].toNat : Int) = 123 := by rw [e1]; rfl
        have HN := Lib.hid (pl.dblTK_two hlt (by rw [e1]; rfl))
        rw [HO.out] at HN
        clear e1
        go_wp2
        go_round
        case rel => exact ⟨k + 1, by omega, by go_num, congrArg Value.string (by rw [hes.out, hes2.out, HN.out])⟩
        case measure => simp [intOf]; omega
      · have g1 : ¬ (s[k].toNat : Int) = 123 := pl.byte_neN e1 rfl
        by_cases e2 : s[k] = 125
        · have g2 : (s[k].toNat : Int) = 125 := by rw [e2]; rfl
          have HN := Lib.hid (pl.dblTK_two hlt (by rw [e2]; rfl))
          rw [HO.out] at HN
          clear e1 e2
          go_wp2
          go_round
          case rel => exact ⟨k + 1, by omega, by go_num, congrArg Value.string (by rw [hes.out, hes2.out, HN.out])⟩
          case measure => simp [intOf]; omega
        · have g2 : ((s[k].toNat : Int) == 125) = false := beq_eq_false_iff_ne.2 (pl.byte_neN e2 rfl)
          have HN := Lib.hid (pl.dblTK_one hlt (by simp [pl.isBr, e1, e2]))
          rw [HO.out] at HN
          clear e1 e2
          go_wp2
          go_round
          case rel => exact ⟨k + 1, by omega, by go_num, congrArg Value.string (by rw [hes.out, HN.out])⟩
          case measure => simp [intOf]; omega
    · obtain rfl : k = s.size := by omega
      rw [pl.dblTK_all] at HO
      go_wp2
      go_ret
      exact ⟨by rw [HO.out]; rfl, rfl⟩

set_option maxHeartbeats 1000000 in
theorem sEscapeForm_any (s : ByteArray) (w : World) (hs : s.size ≤ maxLen) :
    Calls Tryd.prog 22 #[.string s] w fun e w' => e = .returned (.string (pl.escR s)) ∧ Below w.heap.size w w' := by
  go_enter Tryd.func22, Tryd.ntmps22
  go_wp2_with fail
  refine (svalidText_any s _ hs).mono ?_
  rintro e w' ⟨rfl, rfl⟩
  cases hv : pl.validT s.data.toList with
  | false =>
    have HE := Lib.hid (pl.escR_no (pl.dblB_valid hv))
    clear hv
    go_wp2
    go_ret
    exact ⟨by rw [HE.out]; rfl, Below.refl _ _⟩
  | true =>
    have h120 := pl.validT_size hv
    clear hv
    go_wp2_with fail
    go_loop [3, 4] (fun ov iv => ∃ k : Nat, k ≤ s.size ∧ iv = .int .i64 k ∧ ov = .string (pl.bs (pl.dblTK s k))) (fun _ iv => s.size - (intOf iv).toNat)
    case atStart => exact ⟨0, Nat.zero_le _, rfl, rfl⟩
    case round =>
      obtain ⟨k, hk, rfl, rfl⟩ := hrel
      have hol := pl.dblTK_len hk
      obtain ⟨o, HO⟩ : ∃ o, Hid (pl.dblTK s k = o) := ⟨_, Lib.hid rfl⟩
      rw [HO.out] at hol ⊢
      have hosz : (pl.bs o).size ≤ 3000000 := by show o.length ≤ _; omega
      by_cases hlt : k < s.size
      · have hex : (s.extract k (k + 1)).size ≤ 1 := by rw [pl.ex_bs, pl.bs_size, pl.seg_len (by omega)]; omega
        have hwr : IntKind.i64.wrap ((k : Int) + 1) = (k : Int) + 1 := by rw [IntKind.wrap_i64]; omega
        have hes := Lib.hid (pl.bs_one o hlt)
        have hes2 := Lib.hid (pl.bs_one (o ++ [s[k]]) hlt)
        have hz2 : (pl.bs o ++ s.extract k (k + 1)).size ≤ 3000001 := by rw [ByteArray.size_append]; omega
        by_cases e1 : s[k] = 123
        · have g1 : (s[k].toNat : Int) = 123 := by rw [e1]; rfl
          have HN := Lib.hid (pl.dblTK_two hlt (by rw [e1]; rfl))
          rw [HO.out] at HN
          clear e1
          go_wp2
          go_round
          case rel => exact ⟨k + 1, by omega, by go_num, congrArg Value.string (by rw [hes.out, hes2.out, HN.out])⟩
          case measure => simp [intOf]; omega
        · have g1 : ¬ (s[k].toNat : Int) = 123 := pl.byte_neN e1 rfl
          by_cases e2 : s[k] = 125
          · have g2 : (s[k].toNat : Int) = 125 := by rw [e2]; rfl
            have HN := Lib.hid (pl.dblTK_two hlt (by rw [e2]; rfl))
            rw [HO.out] at HN
            clear e1 e2
            go_wp2
            go_round
            case rel => exact ⟨k + 1, by omega, by go_num, congrArg Value.string (by rw [hes.out, hes2.out, HN.out])⟩
            case measure => simp [intOf]; omega
          · have g2 : ((s[k].toNat : Int) == 125) = false := beq_eq_false_iff_ne.2 (pl.byte_neN e2 rfl)
            have HN := Lib.hid (pl.dblTK_one hlt (by simp [pl.isBr, e1, e2]))
            rw [HO.out] at HN
            clear e1 e2
            go_wp2
            go_round
            case rel => exact ⟨k + 1, by omega, by go_num, congrArg Value.string (by rw [hes.out, HN.out])⟩
            case measure => simp [intOf]; omega
      · obtain rfl : k = s.size := by omega
        rw [pl.dblTK_all] at HO
        have hl2 := pl.dblS_size s
        rw [HO.out] at hl2
        go_wp2_with fail
        refine (svalidText_any (pl.bs o) _ (by unfold maxLen; omega)).mono ?_
        rintro e w' ⟨rfl, rfl⟩
        rw [pl.bs_data]
        cases hv2 : pl.validT o with
        | false =>
          have HE := Lib.hid (pl.escR_no (s := s) (by rw [HO.out]; exact hv2))
          clear hv2
          go_wp2
          go_ret
          exact ⟨by rw [HE.out]; rfl, Below.refl _ _⟩
        | true =>
          have HE := Lib.hid (pl.escR_yes (s := s) (by rw [HO.out]; exact hv2))
          clear hv2
          go_wp2
          go_ret
          exact ⟨by rw [HE.out, HO.out]; rfl, Below.refl _ _⟩

set_option maxHeartbeats 1000000 in
theorem iEscapeForm_any (s : ByteArray) (w : World) (hs : s.size ≤ 1048576) (hm : MaxI w) :
    Calls Tryd.prog 21 #[.string s] w fun e w' => e = .returned (.string (pl.escR s)) ∧ Below w.heap.size w w' := by
  have HM := Lib.hid hm
  clear hm
  go_enter Tryd.func21, Tryd.ntmps21
  go_wp2_with fail
  refine (dblI_any s _ hs HM.out).mono ?_
  rintro e w1 ⟨rfl, hb1⟩
  have HB1 := Lib.hid hb1
  have hl := pl.dblS_size s
  clear hb1
  obtain ⟨o, HO⟩ : ∃ o, Hid (pl.dblB s.data.toList = o) := ⟨_, Lib.hid rfl⟩
  rw [HO.out] at hl ⊢
  go_wp2_with fail
  refine (iValidText_any (pl.bs o) _ (by unfold maxLen; omega)).mono ?_
  rintro e w2 ⟨rfl, hb2⟩
  rw [pl.bs_data]
  have HB2 := Lib.hid (HB1.out.trans (hb2.mono HB1.out.size))
  clear hb2
  cases hv2 : pl.validT o with
  | false =>
    have HE := Lib.hid (pl.escR_no (s := s) (by rw [HO.out]; exact hv2))
    clear hv2
    go_wp2
    go_ret
    exact ⟨by rw [HE.out]; rfl, HB2.out⟩
  | true =>
    have HE := Lib.hid (pl.escR_yes (s := s) (by rw [HO.out]; exact hv2))
    clear hv2
    go_wp2
    go_ret
    exact ⟨by rw [HE.out, HO.out]; rfl, HB2.out⟩
end Go.Proofs.YtadlelcckalcoaaDoor
