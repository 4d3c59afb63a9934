/- Contract: padCells. -/
import Derived.Test.YtpfheanpbbfpdaaDoorChangePc
import Derived.Test.YtpfheanpbbfpdaaDoorCol
namespace Go.Proofs.YtpfheanpbbfpdaaDoor
open Go.RowKit
set_option maxRecDepth 100000
set_option linter.unusedVariables false

set_option maxHeartbeats 4000000 in
theorem padCells_any (l : List ByteArray) (v : Value) (h : ByteArray) (w : World) (hr : RStrs w v l) (hl : l.length ≤ 1000) (hs : ∀ i, i < l.length → (nth l i).size ≤ 16) (hw : pl.wide l ≤ 16) (hh : h.size ≤ maxLen) :
    Calls Tryd.prog 62 #[.agg #[v, .string h]] w fun e w' => ∃ v', e = .returned v' ∧ OStrs w.heap.size w' v' (l.map (pl.padF (pl.wide l) h)) ∧ Below w.heap.size w w' := by
  have HR := Lib.hid hr
  have HS := Lib.hid hs
  have HH := Lib.hid hh
  obtain ⟨a0, c0, rfl⟩ := hr.slice
  obtain ⟨n, HN⟩ : ∃ n, Hid (l.length = n) := ⟨_, Lib.hid rfl⟩
  rw [HN.out] at HR hl ⊢
  obtain ⟨W, HW⟩ : ∃ W, Hid (pl.wide l = W) := ⟨_, Lib.hid rfl⟩
  rw [HW.out] at hw ⊢
  clear hr hs hh
  have hb0 : Below w.heap.size w (w.alloc (.cells #[.slice a0 n c0, .string h] 65)) := (Below.refl _ _).alloc (Nat.le_refl _) _
  have d0 : (w.alloc (.cells #[.slice a0 n c0, .string h] 65)).cell? ⟨w.heap.size, 1, none⟩ = some (.string h) := by simp
  obtain ⟨w0, HW0⟩ : ∃ u, Hid (w.alloc (.cells #[.slice a0 n c0, .string h] 65) = u) := ⟨_, Lib.hid rfl⟩
  have hs0 : w0.heap.size = w.heap.size + 1 := by rw [← HW0.out]; simp
  rw [HW0.out] at hb0 d0
  have hb1 : Below w0.heap.size w0 (w0.alloc (.cells #[.int .i64 W] 3)) := (Below.refl _ _).alloc (Nat.le_refl _) _
  have d1 : (w0.alloc (.cells #[.int .i64 W] 3)).cell? ⟨w0.heap.size, 0, none⟩ = some (.int .i64 W) := by simp
  obtain ⟨w1, HW1⟩ : ∃ u, Hid (w0.alloc (.cells #[.int .i64 W] 3) = u) := ⟨_, Lib.hid rfl⟩
  have hs1 : w1.heap.size = w0.heap.size + 1 := by rw [← HW1.out]; simp
  rw [HW1.out] at hb1 d1
  obtain ⟨P1, HP1⟩ : ∃ P, Hid (w.heap.size = P) := ⟨_, Lib.hid rfl⟩
  obtain ⟨P3, HP3⟩ : ∃ P, Hid (w0.heap.size = P) := ⟨_, Lib.hid rfl⟩
  have hf0 : (w1.alloc (.cells #[.func (.func 104) #[] #[.pointer (some ⟨P3, 0, none⟩), .pointer (some ⟨P1, 0, none⟩)]] 45)).cell? ⟨w1.heap.size, 0, none⟩ = some (.func (.func 104) #[] #[.pointer (some ⟨P3, 0, none⟩), .pointer (some ⟨P1, 0, none⟩)]) := by simp
  have hb2 : Below w1.heap.size w1 (w1.alloc (.cells #[.func (.func 104) #[] #[.pointer (some ⟨P3, 0, none⟩), .pointer (some ⟨P1, 0, none⟩)]] 45)) := (Below.refl _ _).alloc (Nat.le_refl _) _
  obtain ⟨w2, HW2⟩ : ∃ u, Hid (w1.alloc (.cells #[.func (.func 104) #[] #[.pointer (some ⟨P3, 0, none⟩), .pointer (some ⟨P1, 0, none⟩)]] 45) = u) := ⟨_, Lib.hid rfl⟩
  have hs2 : w2.heap.size = w1.heap.size + 1 := by rw [← HW2.out]; simp
  rw [HW2.out] at hf0 hb2
  rw [HP1.out] at d0
  rw [HP3.out] at d1
  have hlt1 : P1 < w0.heap.size := by have := HP1.out; omega
  have hlt3 : P3 < w1.heap.size := by have := HP3.out; omega
  have D1 := Lib.hid ((hb2.cell (p := ⟨P1, 1, none⟩) (by show P1 < w1.heap.size; omega)).trans ((hb1.cell (p := ⟨P1, 1, none⟩) hlt1).trans d0))
  have D3 := Lib.hid ((hb2.cell (p := ⟨P3, 0, none⟩) hlt3).trans d1)
  have HB2 := Lib.hid (hb0.trans ((hb1.mono hb0.size).trans (hb2.mono (Nat.le_trans hb0.size hb1.size))))
  have F0 := Lib.hid hf0
  have E1 : Hid (w.heap.size + 1 = P3) := Lib.hid (by rw [← hs0]; exact HP3.out)
  have E2 : Hid (P3 + 1 = w1.heap.size) := Lib.hid (by rw [hs1, HP3.out])
  have E3 : Hid (w.heap.size + 1 + 1 = w1.heap.size) := Lib.hid (by rw [hs1, hs0])
  have E4 : Hid (w.heap.size + 2 = w1.heap.size) := Lib.hid (by rw [hs1, hs0])
  have hg2 : w1.heap.size < w2.heap.size := by omega
  have hp1 : P1 < w2.heap.size := by omega
  have hp3 : P3 < w2.heap.size := by omega
  clear d0 d1 hf0 hb0 hb1 hb2 hs0 hs1 hs2
  go_enter Tryd.func62, Tryd.ntmps62
  go_wp2_with fail
  refine (iLongestOf_any l _ _ (HR.out.below (Nat.le_refl _) ((Below.refl _ _).alloc (Nat.le_refl _) _)) (by rw [HN.out]; omega) (fun i hi => by have := HS.out i hi; omega)).mono ?_
  rintro e w' ⟨rfl, rfl⟩
  rw [HW.out]
  go_wp2_with fail
  rw [HW0.out, HW1.out, E3.out, E1.out, HP1.out, HW2.out]
  refine (changePc_any l _ w1.heap.size W h P3 P1 _ (HR.out.below (Nat.le_refl _) HB2.out) (by rw [HN.out]; omega) (fun i hi => by have := HS.out i hi; omega) (by omega) HH.out hp3 hp1 D3.out D1.out hg2 F0.out).mono ?_
  rintro e w3 ⟨v3, rfl, ho3, hb3⟩
  have HO3 := Lib.hid (ho3.mono HB2.out.size)
  have HB3 := Lib.hid (HB2.out.trans (hb3.mono HB2.out.size))
  clear ho3 hb3
  go_wp2_with fail
  go_ret
  exact ⟨_, rfl, HO3.out, HB3.out⟩
end Go.Proofs.YtpfheanpbbfpdaaDoor
