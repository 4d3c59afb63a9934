/- Contracts: quoteCell of both sides. -/
import Derived.Test.YtpfheanpbbfpdaaDoorPkC
import Derived.Test.YtpfheanpbbfpdaaDoorShelfQ
import Derived.Test.YtpfheanpbbfpdaaDoorValid
import Derived.Test.YtpfheanpbbfpdaaDoorEq
namespace Go.Proofs.YtpfheanpbbfpdaaDoor
open Go.RowKit
set_option maxRecDepth 100000

/-- the library's variable holds a number -/
def MaxI (w : World) : Prop := 1 < w.heap.size ∧ ∃ m, w.cell? ⟨1, 0, none⟩ = some (.int .i64 m)
theorem MaxI.below {C : Nat} {w w' : World} (h : MaxI w) (hC : w.heap.size ≤ C) (hb : Below C w w') : MaxI w' := by
  obtain ⟨h0, m, hm⟩ := h
  exact ⟨by have := hb.size; omega, m, (hb.cell (p := ⟨1, 0, none⟩) (by show 1 < C; omega)).trans hm⟩

theorem ascii_of {s : ByteArray} (h : pl.validT s.data.toList = true) : ∀ (j : Nat) (b : UInt8), s.data.toList[j]? = some b → b.toNat < 128 := by
  intro j b hb
  have hm := List.mem_of_getElem? hb
  unfold pl.validT at h
  rw [Bool.and_eq_true] at h
  have h2 := List.all_eq_true.1 h.1 b hm
  have h3 := pl.plainB_lt h2
  omega

theorem ascii_qs : ∀ (j : Nat) (b : UInt8), (⟨#[44, 34, 32]⟩ : ByteArray).data.toList[j]? = some b → b.toNat < 128 := by
  intro j b hb
  have hm := List.mem_of_getElem? hb
  have h2 : b = 44 ∨ b = 34 ∨ b = 32 := by simpa using hm
  rcases h2 with rfl | rfl | rfl <;> decide
set_option maxHeartbeats 1000000 in
theorem replQ_any (s : ByteArray) (w : World) (hs : s.size ≤ 1000000) (hm : MaxI w) :
    Calls Tryd.prog 112 #[.string s, .string ⟨#[34]⟩, .string ⟨#[34, 34]⟩] w fun e w' => e = .returned (.string (pl.bs (pl.dblQ s.data.toList))) ∧ Below w.heap.size w w' := by
  obtain ⟨_, m, hm⟩ := hm
  have hc : Lib.countB s ⟨#[34]⟩ ≤ s.size := by
    have := Lib.countB_mul_le ⟨#[34]⟩ (by decide) s.size s (Nat.le_refl _)
    have e : (⟨#[34]⟩ : ByteArray).size = 1 := rfl
    rw [e] at this
    omega
  refine (Tryd.strings_ReplaceAll s ⟨#[34]⟩ ⟨#[34, 34]⟩ m w (by omega) hm (by decide) (by show s.size + Lib.countB s ⟨#[34]⟩ * 2 ≤ _; omega)).mono ?_
  rintro e w' ⟨rfl, hb⟩
  exact ⟨by rw [← pl.replaceAll_dbl]; rfl, hb⟩

set_option maxHeartbeats 1000000 in
theorem iquoteCell_any (s : ByteArray) (w : World) (hv : pl.validT s.data.toList = true) (hs : s.size ≤ 1000) (hm : MaxI w) :
    Calls Tryd.prog 71 #[.string s] w fun e w' => e = .returned (.string (pl.quoB s)) ∧ Below w.heap.size w w' := by
  have HM := Lib.hid hm
  have HV := Lib.hid hv
  clear hm hv
  by_cases h0 : s.size = 0
  · have h0' : s.toList.isEmpty = true := pl.empty_of h0
    have hq := Lib.hid (pl.quoB_must (s := s) (by unfold pl.mustQ; rw [← Lib.toList_data, h0']; rfl))
    have hdz : (pl.bs (pl.dblQ s.data.toList)).size ≤ 2000 := pl.dblB_size hs
    have hdz2 : (⟨#[34]⟩ ++ pl.bs (pl.dblQ s.data.toList)).size ≤ 2001 := pl.dblB_size1 hs
    clear h0
    go_enter Tryd.func71, Tryd.ntmps71
    go_wp2_with fail
    refine (replQ_any s _ (by omega) HM.out).mono ?_
    rintro e w' ⟨rfl, hb⟩
    have HB := Lib.hid hb
    clear hb
    go_wp2_with fail
    go_ret
    exact ⟨by rw [← hq.out]; rfl, HB.out⟩
  · have h0' : s.toList.isEmpty = false := pl.nonempty_of h0
    have hL : s.data.toList.isEmpty = false := by rw [← Lib.toList_data, h0']
    clear h0
    go_enter Tryd.func71, Tryd.ntmps71
    go_wp2_with fail
    refine (Tryd.strings_ContainsAny_laid s ⟨#[44, 34, 32]⟩ _ (by omega) (by decide) (ascii_of HV.out) ascii_qs).mono ?_
    rintro e w1 ⟨rfl, hb1⟩
    have hca : Lib.containsAny s.data.toList (⟨#[44, 34, 32]⟩ : ByteArray).data.toList = s.data.toList.any pl.qsB := pl.containsAny_qs _
    rw [hca]
    have HB1 := Lib.hid hb1
    clear hb1 hca
    by_cases hq : s.data.toList.any pl.qsB = true
    · have hquo := Lib.hid (pl.quoB_must (s := s) (by unfold pl.mustQ; rw [hL, hq]; rfl))
      have HM1 := Lib.hid (HM.out.below (Nat.le_refl _) HB1.out)
      have hdz : (pl.bs (pl.dblQ s.data.toList)).size ≤ 2000 := pl.dblB_size hs
      have hdz2 : (⟨#[34]⟩ ++ pl.bs (pl.dblQ s.data.toList)).size ≤ 2001 := pl.dblB_size1 hs
      rw [hq]
      clear hL hq
      go_wp2_with fail
      refine (replQ_any s _ (by omega) HM1.out).mono ?_
      rintro e w' ⟨rfl, hb⟩
      have HB := Lib.hid hb
      clear hb
      go_wp2_with fail
      go_ret
      exact ⟨by rw [← hquo.out]; rfl, HB1.out.trans (HB.out.mono HB1.out.size)⟩
    · have hq' : s.data.toList.any pl.qsB = false := by simpa using hq
      have hquo := Lib.hid (pl.quoB_not (s := s) (by unfold pl.mustQ; rw [hL, hq']; rfl))
      rw [hq']
      clear hL hq hq'
      go_wp2_with fail
      go_ret
      exact ⟨by rw [← hquo.out]; rfl, HB1.out⟩

set_option maxHeartbeats 4000000 in
theorem squoteCell_any (s : ByteArray) (w : World) (hs : s.size ≤ 1000) :
    Calls Tryd.prog 110 #[.string s] w fun e w' => e = .returned (.string (pl.quoB s)) ∧ w = w' := by
  have hem : Hid (s.toList.isEmpty = pl.mustTo s 0) := Lib.hid (by rw [pl.mustTo_zero, Lib.toList_data])
  go_enter Tryd.func110, Tryd.ntmps110
  go_wp2
  go_loop [3, 4, 5] (fun must out i => ∃ (k : Nat) (o : List UInt8) (m : Bool), k ≤ s.size ∧ i = .int .i64 k ∧ out = .string (pl.bs o) ∧ must = .bool m ∧ Hid (o = pl.dblTo s k) ∧ Hid (m = pl.mustTo s k)) (fun _ _ i => s.size - (intOf i).toNat)
  case atStart => exact ⟨0, [], _, Nat.zero_le _, rfl, rfl, rfl, Lib.hid rfl, hem⟩
  case round =>
    obtain ⟨k, o, m, hk, rfl, rfl, rfl, ho, hm⟩ := hrel
    have hol : o.length ≤ 2 * s.size := by have := pl.dblTo_len hk; rw [← ho.out] at this; exact this
    have hosz : (pl.bs o).size ≤ 2000 := by show o.length ≤ _; omega
    clear hem
    by_cases hlt : k < s.size
    · have hex : (s.extract k (k + 1)).size ≤ 1 := by rw [pl.ex_bs, pl.bs_size, pl.seg_len (by omega)]; omega
      have hwr : IntKind.i64.wrap ((k : Int) + 1) = (k : Int) + 1 := by rw [IntKind.wrap_i64]; omega
      by_cases h34 : s[k] = 34
      · have h9 : (s[k].toNat : Int) = 34 := by rw [h34]; rfl
        have hn := Lib.hid ((pl.dblTo_succ hlt).trans (by rw [← ho.out, pl.dblC_quote h34]))
        have hmn : Hid (pl.mustTo s (k + 1) = true) := Lib.hid (by rw [pl.mustTo_succ hlt, h34]; simp [pl.qsB])
        have hes := Lib.hid (pl.bs_one (o ++ [34]) hlt)
        have he4 : Hid (s[k] = 34) := Lib.hid h34
        have h34' := Lib.hid (pl.bs_one' o 34)
        have hq2 : (pl.bs o ++ ⟨#[34]⟩).size ≤ 2001 := by show (o ++ [34]).length ≤ _; simp; omega
        clear h34
        cases m with
        | true =>
          go_wp2
          go_round
          case rel => exact ⟨k + 1, _, _, by omega, by go_num, congrArg Value.string (show (pl.bs o ++ ⟨#[34]⟩) ++ s.extract k (k + 1) = pl.bs (o ++ [34] ++ [34]) from by rw [show (pl.bs o ++ ⟨#[34]⟩ : ByteArray) = pl.bs (o ++ [34]) from h34'.out, hes.out, he4.out]), rfl, Lib.hid (by rw [hn.out]; simp), Lib.hid hmn.out.symm⟩
          case measure => simp [intOf]; omega
        | false =>
          have h44 : ¬ (s[k].toNat : Int) = 44 := by omega
          go_wp2
          go_round
          case rel => exact ⟨k + 1, _, _, by omega, by go_num, congrArg Value.string (show (pl.bs o ++ ⟨#[34]⟩) ++ s.extract k (k + 1) = pl.bs (o ++ [34] ++ [34]) from by rw [show (pl.bs o ++ ⟨#[34]⟩ : ByteArray) = pl.bs (o ++ [34]) from h34'.out, hes.out, he4.out]), rfl, Lib.hid (by rw [hn.out]; simp), Lib.hid hmn.out.symm⟩
          case measure => simp [intOf]; omega
      · have h9 : ¬ (s[k].toNat : Int) = 34 := pl.byte_neN h34 rfl
        have hn := Lib.hid ((pl.dblTo_succ hlt).trans (by rw [← ho.out, pl.dblC_else h34]))
        have hes := Lib.hid (pl.bs_one o hlt)
        cases m with
        | true =>
          have hmn : Hid (pl.mustTo s (k + 1) = true) := Lib.hid (by rw [pl.mustTo_succ hlt, ← hm.out]; rfl)
          clear h34
          go_wp2
          go_round
          case rel => exact ⟨k + 1, _, _, by omega, by go_num, congrArg Value.string hes.out, rfl, Lib.hid hn.out.symm, Lib.hid hmn.out.symm⟩
          case measure => simp [intOf]; omega
        | false =>
          by_cases h44 : s[k] = 44
          · have h8 : (s[k].toNat : Int) = 44 := by rw [h44]; rfl
            have hmn : Hid (pl.mustTo s (k + 1) = true) := Lib.hid (by rw [pl.mustTo_succ hlt, h44]; simp [pl.qsB])
            clear h34 h44
            go_wp2
            go_round
            case rel => exact ⟨k + 1, _, _, by omega, by go_num, congrArg Value.string hes.out, rfl, Lib.hid hn.out.symm, Lib.hid hmn.out.symm⟩
            case measure => simp [intOf]; omega
          · have h8 : ¬ (s[k].toNat : Int) = 44 := pl.byte_neN h44 rfl
            by_cases h32 : s[k] = 32
            · have h7 : (s[k].toNat : Int) = 32 := by rw [h32]; rfl
              have hmn : Hid (pl.mustTo s (k + 1) = true) := Lib.hid (by rw [pl.mustTo_succ hlt, h32]; simp [pl.qsB])
              clear h34 h44 h32
              go_wp2
              go_round
              case rel => exact ⟨k + 1, _, _, by omega, by go_num, congrArg Value.string hes.out, rfl, Lib.hid hn.out.symm, Lib.hid hmn.out.symm⟩
              case measure => simp [intOf]; omega
            · have h7 : ¬ (s[k].toNat : Int) = 32 := pl.byte_neN h32 rfl
              have hmn : Hid (pl.mustTo s (k + 1) = false) := Lib.hid (by rw [pl.mustTo_succ hlt, ← hm.out, pl.qsB_no h44 h34 h32]; rfl)
              clear h34 h44 h32
              go_wp2
              go_round
              case rel => exact ⟨k + 1, _, _, by omega, by go_num, congrArg Value.string hes.out, rfl, Lib.hid hn.out.symm, Lib.hid (by rw [hmn.out]; simp [h7, h8, h9])⟩
              case measure => simp [intOf]; omega
    · obtain rfl : k = s.size := by omega
      have hn := Lib.hid (ho.out.trans (pl.dblTo_all s))
      have hmq := Lib.hid (hm.out.trans (pl.mustTo_all s))
      cases m with
      | true =>
        have hquo := Lib.hid (pl.quoB_must (s := s) hmq.out.symm)
        go_wp2
        go_ret
        exact ⟨by rw [← hquo.out, ← hn.out]; rfl, rfl⟩
      | false =>
        have hquo := Lib.hid (pl.quoB_not' (s := s) hmq.out.symm)
        go_wp2
        go_ret
        exact ⟨by rw [← hquo.out, ← hn.out]; rfl, rfl⟩
end Go.Proofs.YtpfheanpbbfpdaaDoor
