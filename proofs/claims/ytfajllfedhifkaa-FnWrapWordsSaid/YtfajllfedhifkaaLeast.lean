/- Contracts: LeastWidth of both sides. -/
import Derived.Test.YtfajllfedhifkaaPlainC
import Derived.Test.YtfajllfedhifkaaWrapS
namespace Go.Proofs.Ytfajllfedhifkaa
open Go.RowKit
set_option maxRecDepth 100000

namespace pl
theorem leastR_step {l : List ByteArray} {n : Int} {k : Nat} {T : Nat × Bool} (h : firstP (lwP l n) (121 - k) k = T) (hk : k ≤ 120) : (lwP l n k = true → T = (k, true)) ∧ (lwP l n k = false → firstP (lwP l n) (121 - (k + 1)) (k + 1) = T) := by
  rw [show 121 - k = (120 - k) + 1 from by omega] at h
  constructor
  · intro hp; rw [firstP_yes hp] at h; exact h.symm
  · intro hp; rw [firstP_no hp] at h
    rw [show 121 - (k + 1) = 120 - k from by omega]; exact h
theorem leastR_end {l : List ByteArray} {n : Int} {T : Nat × Bool} (h : firstP (lwP l n) (121 - 121) 121 = T) : T = (0, false) := h.symm
end pl

set_option maxHeartbeats 2000000 in
theorem sLeast_any (l : List ByteArray) (n : Int) (v : Value) (w : World) (hr : RStrs w v l) (hlen : l.length ≤ maxLen) (hsz : ∀ i, i < l.length → (nth l i).size ≤ maxLen) :
    Calls Try.prog 32 #[v, .int .i64 n] w fun e w' => e = .returned (.tuple #[.int .i64 (pl.leastR l n).1, .bool (pl.leastR l n).2]) ∧ Below w.heap.size w w' := by
  by_cases hv : pl.vWords l = true
  · by_cases hin : pl.inR n 1 9 = true
    · have hnn := pl.inR_parts hin
      have HV := Lib.hid hv
      have HI := Lib.hid hin
      have HS := Lib.hid hsz
      have HLn := Lib.hid hlen
      have HR := Lib.hid hr
      have h9 := Lib.hid (pl.vWords_parts hv).1
      have h12 := Lib.hid (pl.words_12 hv)
      obtain ⟨T, hT⟩ : ∃ T, Hid (pl.leastR l n = T) := ⟨_, Lib.hid rfl⟩
      have hT0 : Hid (pl.firstP (pl.lwP l n) (121 - 1) 1 = T) := Lib.hid (by rw [← hT.out, pl.leastR_yes hv hin])
      rw [hT.out]
      clear hr hv hin hsz hlen
      go_enter Try.func32, Try.ntmps32
      go_wp2_with fail
      refine (svalidWords_any l _ _ HR.out HLn.out HS.out).mono ?_
      rintro e w' ⟨rfl, rfl⟩
      rw [HV.out]
      go_wp2_with fail
      refine (inRange_any _ _ _ _).mono ?_
      rintro e w' ⟨rfl, rfl⟩
      rw [HI.out]
      go_wp2_with fail
      go_loopw [6] (fun iv wr => ∃ k : Nat, 1 ≤ k ∧ k ≤ 121 ∧ iv = .int .i64 k ∧ Hid (pl.firstP (pl.lwP l n) (121 - k) k = T) ∧ Below w.heap.size w wr) (fun iv _ => 121 - (intOf iv).toNat)
      case atStart => exact ⟨1, by omega, by omega, rfl, hT0, Below.refl _ _⟩
      case round =>
        obtain ⟨k, hk1, hk, rfl, hinv, hbel⟩ := hrel
        by_cases hlt : k ≤ 120
        · have hst := Lib.hid (pl.leastR_step hinv.out hlt)
          by_cases hf : pl.fitA l k = true
          · obtain ⟨m, hm⟩ : ∃ m, Hid ((pl.wrapB k l).length = m) := ⟨_, Lib.hid rfl⟩
            have hm9 : m ≤ 9 := by rw [← hm.out]; exact Nat.le_trans (pl.wrapB_len k l) h9.out
            by_cases hle : (m : Int) ≤ n
            · have hres : Hid (T = (k, true)) := Lib.hid (hst.out.1 (by unfold pl.lwP; rw [hf, hm.out, decide_eq_true hle]; rfl))
              go_wp2_with fail
              refine (fitAll_any l k _ _ (HR.out.below (Nat.le_refl _) hbel) HLn.out HS.out).mono ?_
              rintro e w' ⟨rfl, rfl⟩
              rw [hf]
              go_wp2_with fail
              refine (sgreedy_any l k _ _ (HR.out.below (Nat.le_refl _) hbel) h9.out h12.out).mono ?_
              rintro e w2 ⟨v2, rfl, ho2, hb2⟩
              obtain ⟨a2, cap2, rfl⟩ := ho2.reads.slice
              rw [hm.out]
              have HB2 := Lib.hid (hbel.trans (hb2.mono hbel.size))
              clear ho2 hb2 hf
              go_wp2_with fail
              go_ret2
              exact ⟨by rw [hres.out]; rfl, HB2.out⟩
            · have hnx : Hid (pl.firstP (pl.lwP l n) (121 - (k + 1)) (k + 1) = T) := Lib.hid (hst.out.2 (by unfold pl.lwP; rw [hf, hm.out, decide_eq_false hle]; rfl))
              go_wp2_with fail
              refine (fitAll_any l k _ _ (HR.out.below (Nat.le_refl _) hbel) HLn.out HS.out).mono ?_
              rintro e w' ⟨rfl, rfl⟩
              rw [hf]
              go_wp2_with fail
              refine (sgreedy_any l k _ _ (HR.out.below (Nat.le_refl _) hbel) h9.out h12.out).mono ?_
              rintro e w2 ⟨v2, rfl, ho2, hb2⟩
              obtain ⟨a2, cap2, rfl⟩ := ho2.reads.slice
              rw [hm.out]
              have HB2 := Lib.hid (hbel.trans (hb2.mono hbel.size))
              clear ho2 hb2 hf
              go_wp2_with fail
              go_roundw
              case rel => exact ⟨k + 1, by omega, by omega, by go_num, hnx, HB2.out⟩
              case measure => simp [intOf]; omega
          · have hf' : pl.fitA l k = false := by simpa using hf
            have hnx : Hid (pl.firstP (pl.lwP l n) (121 - (k + 1)) (k + 1) = T) := Lib.hid (hst.out.2 (by unfold pl.lwP; rw [hf']; rfl))
            clear hf
            go_wp2_with fail
            refine (fitAll_any l k _ _ (HR.out.below (Nat.le_refl _) hbel) HLn.out HS.out).mono ?_
            rintro e w' ⟨rfl, rfl⟩
            rw [hf']
            go_wp2_with fail
            go_roundw
            case rel => exact ⟨k + 1, by omega, by omega, by go_num, hnx, hbel⟩
            case measure => simp [intOf]; omega
        · obtain rfl : k = 121 := by omega
          have hres : Hid (T = (0, false)) := Lib.hid (pl.leastR_end hinv.out)
          go_wp2_with fail
          go_ret2
          exact ⟨by rw [hres.out]; rfl, hbel⟩
    · have hin' : pl.inR n 1 9 = false := by simpa using hin
      have hb := Lib.hid (pl.leastR_no (l := l) (n := n) (.inr hin'))
      clear hin
      go_enter Try.func32, Try.ntmps32
      go_wp2_with fail
      refine (svalidWords_any l _ _ hr hlen hsz).mono ?_
      rintro e w' ⟨rfl, rfl⟩
      rw [hv]
      go_wp2_with fail
      refine (inRange_any _ _ _ _).mono ?_
      rintro e w' ⟨rfl, rfl⟩
      rw [hin']
      go_wp2_with fail
      go_ret2
      exact ⟨by rw [hb.out]; rfl, Below.refl _ _⟩
  · have hv' : pl.vWords l = false := by simpa using hv
    have hb := Lib.hid (pl.leastR_no (l := l) (n := n) (.inl hv'))
    clear hv
    go_enter Try.func32, Try.ntmps32
    go_wp2_with fail
    refine (svalidWords_any l _ _ hr hlen hsz).mono ?_
    rintro e w' ⟨rfl, rfl⟩
    rw [hv']
    go_wp2_with fail
    go_ret2
    exact ⟨by rw [hb.out]; rfl, Below.refl _ _⟩

set_option maxHeartbeats 2000000 in
theorem iLeast_any (l : List ByteArray) (n : Int) (v : Value) (w : World) (hl : LStrs w v l) (hlen : l.length ≤ maxLen) (hsz : ∀ i, i < l.length → (nth l i).size ≤ maxLen) :
    Calls Try.prog 31 #[v, .int .i64 n] w fun e w' => e = .returned (.tuple #[.int .i64 (pl.leastR l n).1, .bool (pl.leastR l n).2]) ∧ Below w.heap.size w w' := by
  by_cases hv : pl.vWords l = true
  · by_cases h1 : n < 1
    · have hb := Lib.hid (pl.leastR_no (l := l) (n := n) (.inr (pl.inR_false (.inl h1))))
      go_enter Try.func31, Try.ntmps31
      go_wp2_with fail
      refine (iValidWords_any l _ _ hl.1 hlen hsz).mono ?_
      rintro e w1 ⟨rfl, hb1⟩
      rw [hv]
      go_wp2_with fail
      go_ret2
      exact ⟨by rw [hb.out]; rfl, hb1⟩
    · by_cases h2 : 9 < n
      · have hb := Lib.hid (pl.leastR_no (l := l) (n := n) (.inr (pl.inR_false (.inr h2))))
        go_enter Try.func31, Try.ntmps31
        go_wp2_with fail
        refine (iValidWords_any l _ _ hl.1 hlen hsz).mono ?_
        rintro e w1 ⟨rfl, hb1⟩
        rw [hv]
        go_wp2_with fail
        go_ret2
        exact ⟨by rw [hb.out]; rfl, hb1⟩
      · have hin : pl.inR n 1 9 = true := pl.inR_true (by omega) (by omega)
        have HV := Lib.hid hv
        have HS := Lib.hid hsz
        have HLn := Lib.hid hlen
        have HL := Lib.hid hl
        have h9 := Lib.hid (pl.vWords_parts hv).1
        obtain ⟨T, hT⟩ : ∃ T, Hid (pl.leastR l n = T) := ⟨_, Lib.hid rfl⟩
        have hT0 : Hid (pl.firstP (pl.lwP l n) (121 - 1) 1 = T) := Lib.hid (by rw [← hT.out, pl.leastR_yes hv hin])
        rw [hT.out]
        clear hl hv hin hsz hlen
        go_enter Try.func31, Try.ntmps31
        go_wp2_with fail
        refine (iValidWords_any l _ _ HL.out.1 HLn.out HS.out).mono ?_
        rintro e w1 ⟨rfl, hb1⟩
        rw [HV.out]
        go_wp2_with fail
        go_loopw [6] (fun iv wr => ∃ k : Nat, 1 ≤ k ∧ k ≤ 121 ∧ iv = .int .i64 k ∧ Hid (pl.firstP (pl.lwP l n) (121 - k) k = T) ∧ Below w.heap.size w wr) (fun iv _ => 121 - (intOf iv).toNat)
        case atStart => exact ⟨1, by omega, by omega, rfl, hT0, hb1⟩
        case round =>
          obtain ⟨k, hk1, hk, rfl, hinv, hbel⟩ := hrel
          by_cases hlt : k ≤ 120
          · have hst := Lib.hid (pl.leastR_step hinv.out hlt)
            by_cases hf : pl.fitA l k = true
            · have hwr : Hid (pl.wrapR l k = pl.wrapB k l) := Lib.hid (pl.wrapR_yes hf)
              obtain ⟨m, hm⟩ : ∃ m, Hid ((pl.wrapB k l).length = m) := ⟨_, Lib.hid rfl⟩
              have hm9 : m ≤ 9 := by rw [← hm.out]; exact Nat.le_trans (pl.wrapB_len k l) h9.out
              by_cases hle : (m : Int) ≤ n
              · have hres : Hid (T = (k, true)) := Lib.hid (hst.out.1 (by unfold pl.lwP; rw [hf, hm.out, decide_eq_true hle]; rfl))
                go_wp2_with fail
                refine (iWrapWords_any l k _ _ (HL.out.below (Nat.le_refl _) hbel) HLn.out HS.out).mono ?_
                rintro e w2 ⟨v2, rfl, ho2, hb2⟩
                rw [hf]
                rw [hwr.out] at ho2
                obtain ⟨a2, cap2, rfl⟩ := ho2.reads.slice
                rw [hm.out]
                have HB2 := Lib.hid (hbel.trans (hb2.mono hbel.size))
                clear ho2 hb2 hf
                go_wp2_with fail
                go_ret2
                exact ⟨by rw [hres.out]; rfl, HB2.out⟩
              · have hnx : Hid (pl.firstP (pl.lwP l n) (121 - (k + 1)) (k + 1) = T) := Lib.hid (hst.out.2 (by unfold pl.lwP; rw [hf, hm.out, decide_eq_false hle]; rfl))
                go_wp2_with fail
                refine (iWrapWords_any l k _ _ (HL.out.below (Nat.le_refl _) hbel) HLn.out HS.out).mono ?_
                rintro e w2 ⟨v2, rfl, ho2, hb2⟩
                rw [hf]
                rw [hwr.out] at ho2
                obtain ⟨a2, cap2, rfl⟩ := ho2.reads.slice
                rw [hm.out]
                have HB2 := Lib.hid (hbel.trans (hb2.mono hbel.size))
                clear ho2 hb2 hf
                go_wp2_with fail
                go_roundw
                case rel => exact ⟨k + 1, by omega, by omega, by go_num, hnx, HB2.out⟩
                case measure => simp [intOf]; omega
            · have hf' : pl.fitA l k = false := by simpa using hf
              have hnx : Hid (pl.firstP (pl.lwP l n) (121 - (k + 1)) (k + 1) = T) := Lib.hid (hst.out.2 (by unfold pl.lwP; rw [hf']; rfl))
              clear hf
              go_wp2_with fail
              refine (iWrapWords_any l k _ _ (HL.out.below (Nat.le_refl _) hbel) HLn.out HS.out).mono ?_
              rintro e w2 ⟨v2, rfl, ho2, hb2⟩
              rw [hf']
              have HB2 := Lib.hid (hbel.trans (hb2.mono hbel.size))
              clear ho2 hb2
              go_wp2_with fail
              go_roundw
              case rel => exact ⟨k + 1, by omega, by omega, by go_num, hnx, HB2.out⟩
              case measure => simp [intOf]; omega
          · obtain rfl : k = 121 := by omega
            have hres : Hid (T = (0, false)) := Lib.hid (pl.leastR_end hinv.out)
            go_wp2_with fail
            go_ret2
            exact ⟨by rw [hres.out]; rfl, hbel⟩
  · have hv' : pl.vWords l = false := by simpa using hv
    have hb := Lib.hid (pl.leastR_no (l := l) (n := n) (.inl hv'))
    clear hv
    go_enter Try.func31, Try.ntmps31
    go_wp2_with fail
    refine (iValidWords_any l _ _ hl.1 hlen hsz).mono ?_
    rintro e w1 ⟨rfl, hb1⟩
    rw [hv']
    go_wp2_with fail
    go_ret2
    exact ⟨by rw [hb.out]; rfl, hb1⟩
end Go.Proofs.Ytfajllfedhifkaa
