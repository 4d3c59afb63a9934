/- Contract: the laws' equalFills. -/
import Derived.Test.YtadlelcckalcoaaArgsF
import Derived.BigQuiet
namespace Go.Proofs.Ytadlelcckalcoaa
open Go.RowKit
set_option maxRecDepth 100000
set_option linter.unusedVariables false

set_option maxHeartbeats 4000000 in
theorem equalFills_same (fl : List pl.Pc) (u v : Value) (w : World) (hu : RPc w u fl) (hv : RPc w v fl) (hl : fl.length ≤ 1048576) :
    Calls Try.prog 20 #[u, v] w fun e w' => e = .returned (.bool true) ∧ Below w.heap.size w w' := by
  have HU := Lib.hid hu
  have HV := Lib.hid hv
  obtain ⟨au, cu, rfl⟩ := hu.slice
  obtain ⟨av, cv, rfl⟩ := hv.slice
  obtain ⟨n, HN⟩ : ∃ n, Hid (n = fl.length) := ⟨_, Lib.hid rfl⟩
  rw [← HN.out] at HU HV hl ⊢
  clear hu hv
  go_enter Try.func20, Try.ntmps20
  have hbn : ((n : Int) != (n : Int)) = false := by simp
  go_wp2_with fail
  go_loopw [5] (fun iv wr => ∃ k : Nat, k ≤ n ∧ iv = .int .i64 k ∧ Hid (Below w.heap.size w wr)) (fun iv _ => n - (intOf iv).toNat)
  case atStart => exact ⟨0, Nat.zero_le _, rfl, Lib.hid (Below.refl _ _)⟩
  case round =>
    obtain ⟨k, hk, rfl, HB⟩ := hrel
    by_cases hlt : k < n
    · obtain ⟨b, o, rfl, hbw, c1, c2⟩ := HU.out.at HN.out HB.out hlt
      obtain ⟨b', o', rfl, hbw', d1, d2⟩ := HV.out.at HN.out HB.out hlt
      obtain ⟨nm, HNM⟩ : ∃ nm, Hid ((pl.nthQ fl k).1 = nm) := ⟨_, Lib.hid rfl⟩
      obtain ⟨pt, HPT⟩ : ∃ pt, Hid ((pl.nthQ fl k).2 = pt) := ⟨_, Lib.hid rfl⟩
      rw [HNM.out] at c1 d1
      rw [HPT.out] at c2 d2
      have hx : (nm.toList != nm.toList) = false := by simp
      have hy : (pt.toList != pt.toList) = false := by simp
      have hx2 : (nm.toList == nm.toList) = true := by simp
      have hy2 : (pt.toList == pt.toList) = true := by simp
      go_wp2_with fail
      go_quiet (fail)
      have HB2 := Lib.hid (HB.out.trans (below_drewN (w := wr) (n := nq)))
      clear c1 c2 d1 d2
      go_wp2_with fail
      go_roundw
      case rel => exact ⟨k + 1, by omega, by go_num, HB2⟩
      case measure => simp [intOf]; omega
    · obtain rfl : k = n := by omega
      go_wp2_with fail
      go_ret
      exact ⟨rfl, HB.out⟩
end Go.Proofs.Ytadlelcckalcoaa
