/- Contracts: ragged, and a plain cell. -/
import Derived.Test.YtpfheanpbbfpdaaDoorPkC
import Derived.Test.YtpfheanpbbfpdaaDoorBytes
namespace Go.Proofs.YtpfheanpbbfpdaaDoor
open Go.RowKit
set_option maxRecDepth 100000

namespace pl
theorem head_at {s : ByteArray} (h0 : 0 < s.size) : s.data.toList.head? = some s[0] := by
  rw [List.head?_eq_getElem?, List.getElem?_eq_getElem (by rw [len_eq]; exact h0)]; rfl
theorem last_at {s : ByteArray} (h0 : 0 < s.size) : s.data.toList.getLast? = some s[s.size - 1] := by
  rw [List.getLast?_eq_getElem?, List.getElem?_eq_getElem (by rw [len_eq]; omega)]
  congr 1
theorem plainC_of {x : ByteArray} (h1 : hasC x 124 = false) (h2 : raggedL x.data.toList = false) : plainC x = true := by
  unfold plainC
  rw [h2]
  unfold hasC at h1
  simpa using h1
end pl

set_option maxHeartbeats 1000000 in
theorem ragged_any (s : ByteArray) (w : World) (hs : s.size ≤ 1000000) :
    Calls Tryd.prog 18 #[.string s] w fun e w' => e = .returned (.bool (pl.raggedL s.data.toList)) ∧ w = w' := by
  by_cases h : s.size = 0
  · have hr : Hid (pl.raggedL s.data.toList = false) := Lib.hid (by
      have e0 : s.data.toList = [] := List.length_eq_zero_iff.1 (by rw [pl.len_eq]; exact h)
      rw [e0]; rfl)
    have h0' : s.toList.isEmpty = true := pl.empty_of h
    go_enter Tryd.func18, Tryd.ntmps18
    go_wp2
    go_ret
    exact ⟨by rw [hr.out]; rfl, rfl⟩
  · have h0 : 0 < s.size := by omega
    have h0' : s.toList.isEmpty = false := pl.nonempty_of (by omega)
    have e3 : 0 ≤ (s.size : Int) - 1 ∧ (s.size : Int) - 1 < s.size := by omega
    have hd := pl.head_at h0
    have hl := pl.last_at h0
    by_cases h1 : s[0] = 32
    · have e1 : ((s[0].toNat : Int) == 32) = true := by rw [h1]; rfl
      have hr : Hid (pl.raggedL s.data.toList = true) := Lib.hid (by unfold pl.raggedL; rw [hd, h1]; simp)
      clear h1 hd hl
      go_enter Tryd.func18, Tryd.ntmps18
      go_wp2
      go_ret
      exact ⟨by rw [hr.out]; rfl, rfl⟩
    · have e1 : ((s[0].toNat : Int) == 32) = false := beq_eq_false_iff_ne.2 (pl.byte_ne h1)
      by_cases h2 : s[s.size - 1] = 32
      · have e2 : ((s[s.size - 1].toNat : Int) == 32) = true := by rw [h2]; rfl
        have hr : Hid (pl.raggedL s.data.toList = true) := Lib.hid (by unfold pl.raggedL; rw [hl, h2]; simp)
        clear h1 h2 hd hl
        go_enter Tryd.func18, Tryd.ntmps18
        go_wp2
        go_ret
        exact ⟨by rw [hr.out]; rfl, rfl⟩
      · have e2 : ((s[s.size - 1].toNat : Int) == 32) = false := beq_eq_false_iff_ne.2 (pl.byte_ne h2)
        have hr : Hid (pl.raggedL s.data.toList = false) := Lib.hid (by unfold pl.raggedL; rw [hl, hd]; simp [h1, h2])
        clear h1 h2 hd hl
        go_enter Tryd.func18, Tryd.ntmps18
        go_wp2
        go_ret
        exact ⟨by rw [hr.out]; rfl, rfl⟩
end Go.Proofs.YtpfheanpbbfpdaaDoor
