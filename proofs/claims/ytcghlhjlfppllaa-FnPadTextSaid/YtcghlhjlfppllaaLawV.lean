/- The walk of FnValidText. -/
import Derived.Test.YtcghlhjlfppllaaValid
import Derived.Test.YtcghlhjlfppllaaDraw3
import Derived.Test.YtcghlhjlfppllaaPlainW
namespace Go.Proofs.Ytcghlhjlfppllaa.pl
theorem validT_drop {s : ByteArray} (h : validT s.data.toList = true) : validT (s.extract 1 s.size).data.toList = true := by
  unfold validT at h ⊢
  rw [ex_bs, bs_data]
  simp only [Bool.and_eq_true, List.all_eq_true, decide_eq_true_eq] at h ⊢
  refine ⟨fun c hc => h.1 c (List.mem_of_mem_drop (List.mem_of_mem_take hc)), ?_⟩
  have := h.2
  unfold seg
  rw [List.length_take, List.length_drop]; omega
end Go.Proofs.Ytcghlhjlfppllaa.pl
namespace Go.Proofs.Ytcghlhjlfppllaa
open Go.RowKit

theorem row_len {k : IntKind} {w : World} {a : Option Addr} {len cap : Nat} {zs : List Int} (h : IsRow k w a len cap zs) : len ≤ 9223372036854775807 := by
  rcases h with ⟨_, h, _⟩ | ⟨x, _, hl, hm, _⟩
  · omega
  · unfold maxLen at hm; omega

set_option maxHeartbeats 1000000 in
theorem fnValidText_walk (a : Option Addr) (len cap : Nat) (zs : List Int) (w : World) (hr : IsRow .u8 w a len cap zs) :
    Calls Try.prog 3 #[.slice a len cap] w fun e w' => e = .returned (.bool true) ∧ Below w.heap.size w w' := by
  have hlen := row_len hr
  by_cases hb : 1048576 < len
  · go_enter Try.func3, Try.ntmps3
    go_wp2
    go_ret
    exact ⟨rfl, Below.refl _ _⟩
  · go_enter Try.func3, Try.ntmps3
    go_wp2_with fail
    refine (dValidText_any a len cap zs _ hr).mono ?_
    rintro e w1 ⟨s, rfl, hs, hb1⟩
    have hsm : s.size ≤ maxLen := by unfold maxLen; omega
    have g1 := hb1.size
    go_wp2_with fail
    refine (iValidText_any s _ hsm).mono ?_
    rintro e w2 ⟨rfl, hb2⟩
    have g2 := hb2.size
    by_cases hv : pl.validT s.data.toList = true
    · by_cases h0 : s.size = 0
      · have h0' : s.toList.isEmpty = true := pl.empty_of h0
        go_wp2_with (go_at_call 15; refine (sValidText_any _ _ hsm).mono ?_; rintro e w' ⟨rfl, rfl⟩)
        go_ret
        exact ⟨rfl, hb1.trans (hb2.mono g1)⟩
      · have h0' : s.toList.isEmpty = false := pl.nonempty_of h0
        have hd := pl.validT_drop hv
        rw [Lib.extract_data, List.drop_one] at hd
        have hd' := Lib.hid hd
        clear hd
        have h1 : 1 ≤ s.size := by omega
        have hsm' : (s.extract 1 s.size).size ≤ maxLen := by rw [pl.ex_bs, pl.bs_size, pl.seg_len (Nat.le_refl _)]; omega
        go_wp2_with (first | (go_at_call 15; refine (sValidText_any _ _ hsm).mono ?_; rintro e w' ⟨rfl, rfl⟩) | (go_at_call 14; refine (iValidText_any _ _ hsm').mono ?_; rintro e w3 ⟨rfl, hb3⟩))
        go_ret
        exact ⟨ret_b hd'.out, hb1.trans ((hb2.mono g1).trans (Below.mono (by assumption) (by omega)))⟩
    · have hv' : pl.validT s.data.toList = false := by simpa using hv
      go_wp2_with (go_at_call 15; refine (sValidText_any _ _ hsm).mono ?_; rintro e w' ⟨rfl, rfl⟩)
      go_ret
      exact ⟨rfl, hb1.trans (hb2.mono g1)⟩
end Go.Proofs.Ytcghlhjlfppllaa
