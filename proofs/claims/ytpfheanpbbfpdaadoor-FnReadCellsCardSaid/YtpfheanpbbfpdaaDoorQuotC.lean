/- Contracts: QuoteCells of both sides. -/
import Derived.Test.YtpfheanpbbfpdaaDoorChangeQc
import Derived.Test.YtpfheanpbbfpdaaDoorTbV
import Derived.Test.YtpfheanpbbfpdaaDoorJoinI
import Derived.Test.YtpfheanpbbfpdaaDoorJoin
namespace Go.Proofs.YtpfheanpbbfpdaaDoor
open Go.RowKit
set_option maxRecDepth 100000
set_option linter.unusedVariables false

theorem RPs.lit {w : World} {v : Value} {l : List ByteArray} {T : TypeId} (h : LStrs w v l) : RPs (w.alloc (.cells #[v] T)) (.slice (some ⟨w.heap.size, 0, none⟩) 1 1) [l] :=
  .inr ⟨by simp, w.heap.size, 0, 1, rfl, by simp, fun i hi => by
    obtain rfl : i = 0 := by simpa using hi
    exact ⟨v, cell_one_new _ _ _ 0 v rfl, h.below (Nat.le_refl _) ((Below.refl _ _).alloc (Nat.le_refl _) _)⟩⟩
theorem Small.one {l : List ByteArray} (hlen : l.length ≤ 1048576) (hsz : ∀ i, i < l.length → (nth l i).size ≤ 1048576) : Small [l] where
  len := by simp
  rows := fun k hk => by
    obtain rfl : k = 0 := by simpa using hk
    exact hlen
  size := fun k hk => by
    obtain rfl : k = 0 := by simpa using hk
    exact hsz

set_option maxHeartbeats 1000000 in
theorem svalidCells_any (l : List ByteArray) (v : Value) (w : World) (hr : LStrs w v l) (hlen : l.length ≤ 1048576) (hsz : ∀ i, i < l.length → (nth l i).size ≤ 1048576) :
    Calls Tryd.prog 109 #[v] w fun e w' => e = .returned (.bool (pl.vCells l)) ∧ Below w.heap.size w w' := by
  have HR := Lib.hid hr
  have HSM := Lib.hid (Small.one hlen hsz)
  obtain ⟨a0, cap0, rfl⟩ := hr.1.slice
  clear hr hlen hsz
  go_enter Tryd.func109, Tryd.ntmps109
  go_wp2_with fail
  refine (svalidRows_any [l] _ _ (RPs.lit HR.out) HSM.out).mono ?_
  rintro e w' ⟨rfl, hb⟩
  rw [pl.vRows_one]
  have HB := Lib.hid (((Below.refl w.heap.size w).alloc (Nat.le_refl _) _).trans (hb.mono (by simp)))
  clear hb
  go_wp2_with fail
  go_ret
  exact ⟨rfl, HB.out⟩

set_option maxHeartbeats 4000000 in
theorem iQuoteCells_any (l : List ByteArray) (v : Value) (w : World) (hr : RStrs w v l) (hlen : l.length ≤ 1048577) (hsz : ∀ i, i < l.length → (nth l i).size ≤ 1048576) (hm : MaxI w) :
    Calls Tryd.prog 25 #[v] w fun e w' => e = .returned (.string (pl.quoR l)) ∧ Below w.heap.size w w' := by
  have HR := Lib.hid hr
  have HM := Lib.hid hm
  have HL := Lib.hid hlen
  have HSZ := Lib.hid hsz
  obtain ⟨a0, cap0, rfl⟩ := hr.slice
  obtain ⟨n, HN⟩ : ∃ n, Hid (l.length = n) := ⟨_, Lib.hid rfl⟩
  rw [HN.out] at HR ⊢
  clear hr hm hlen hsz
  go_enter Tryd.func25, Tryd.ntmps25
  go_wp2_with fail
  refine (ivalidCells_any l _ _ HR.out (by have := HL.out; unfold maxLen; omega) (fun i hi => by have := HSZ.out i hi; unfold maxLen; omega)).mono ?_
  rintro e w1 ⟨rfl, hb1⟩
  have HB1 := Lib.hid hb1
  clear hb1
  cases hv : pl.vCells l with
  | false =>
    have HC := Lib.hid (pl.quoR_no hv)
    clear hv
    go_wp2_with fail
    go_ret
    exact ⟨by rw [HC.out]; rfl, HB1.out⟩
  | true =>
    have HC := Lib.hid (pl.quoR_yes hv)
    have HV := Lib.hid hv
    clear hv
    go_wp2_with fail
    have hA : Below w1.heap.size w1 (w1.alloc (.cells #[.func (.func 71) #[] #[]] 45)) := (Below.refl _ _).alloc (Nat.le_refl _) _
    have hf0 : (w1.alloc (.cells #[.func (.func 71) #[] #[]] 45)).cell? ⟨w1.heap.size, 0, none⟩ = some (.func (.func 71) #[] #[]) := by simp
    refine (changeQc_any l _ w1.heap.size _ ((HR.out.below (Nat.le_refl _) HB1.out).below (Nat.le_refl _) hA) (by have := (pl.vCells_parts HV.out).2.1; omega) HSZ.out ((HM.out.below (Nat.le_refl _) HB1.out).below (Nat.le_refl _) hA) (pl.vCells_text HV.out) (by simp) hf0).mono ?_
    rintro e w2 ⟨v2, rfl, ho2, hb2⟩
    have HO2 := Lib.hid ho2.reads
    have HB2 := Lib.hid (HB1.out.trans ((hA.trans (hb2.mono hA.size)).mono HB1.out.size))
    have HO3 := Lib.hid ho2.lreads
    clear hA hf0 hb2 ho2
    go_wp2_with fail
    have hq0 : 0 < (l.map pl.quoB).length := by rw [List.length_map]; have := (pl.vCells_parts HV.out).1; omega
    have hq1 : (l.map pl.quoB).length ≤ 2000000 := by rw [List.length_map]; have := HL.out; omega
    have hq2 : (pl.joinB (l.map pl.quoB) pl.comma).size ≤ 1000000000000 := Nat.le_trans (pl.quoJ_size HV.out) (by decide)
    have hj := joinAll (l.map pl.quoB) pl.comma v2 w2 HO3.out hq0 hq1 hq2
    refine hj.mono ?_
    rintro e w3 ⟨rfl, hb3⟩
    have HB3 := Lib.hid (HB2.out.trans (hb3.mono HB2.out.size))
    clear hb3
    go_wp2_with fail
    go_ret
    exact ⟨by rw [HC.out]; rfl, HB3.out⟩

set_option maxHeartbeats 4000000 in
theorem sQuoteCells_any (l : List ByteArray) (v : Value) (w : World) (hr : LStrs w v l) (hlen : l.length ≤ 1048576) (hsz : ∀ i, i < l.length → (nth l i).size ≤ 1048576) :
    Calls Tryd.prog 65 #[v] w fun e w' => e = .returned (.string (pl.quoR l)) ∧ Below w.heap.size w w' := by
  obtain ⟨i0, hi, hz0, hz1, hz2⟩ := info_parts infoS
  have HR := Lib.hid hr
  have HL := Lib.hid hlen
  have HSZ := Lib.hid hsz
  obtain ⟨a0, cap0, rfl⟩ := hr.1.slice
  obtain ⟨n, HN⟩ : ∃ n, Hid (n = l.length) := ⟨_, Lib.hid rfl⟩
  rw [← HN.out] at HR hlen ⊢
  clear hr hsz
  go_enter Tryd.func65, Tryd.ntmps65
  go_wp2_with fail
  refine (svalidCells_any l _ _ HR.out HL.out HSZ.out).mono ?_
  rintro e w1 ⟨rfl, hb1⟩
  have HB1 := Lib.hid hb1
  clear hb1
  cases hv : pl.vCells l with
  | false =>
    have HC := Lib.hid (pl.quoR_no hv)
    clear hv
    go_wp2_with fail
    go_ret
    exact ⟨by rw [HC.out]; rfl, HB1.out⟩
  | true =>
    have HC := Lib.hid (pl.quoR_yes hv)
    have HV := Lib.hid hv
    have h5 : n ≤ 5 := by have := (pl.vCells_parts hv).2.1; rw [← HN.out] at this; exact this
    have HR1 := Lib.hid (HR.out.1.below (Nat.le_refl _) HB1.out)
    clear hv
    go_wp2_with fail
    go_loopw [3, 4] (fun ov iv wr => ∃ (k : Nat), k ≤ n ∧ iv = .int .i64 k ∧ OStrs w1.heap.size wr ov (pl.qTo l k) ∧ Below w1.heap.size w1 wr) (fun _ iv _ => n - (intOf iv).toNat)
    case atStart => exact ⟨0, Nat.zero_le _, rfl, World.ownsRow_made _ _ _ (Nat.le_refl _) (by unfold maxLen; omega) rfl, (Below.refl _ _).alloc (Nat.le_refl _) _⟩
    case round =>
      obtain ⟨k, hk, rfl, hown, hbel⟩ := hrel
      by_cases hlt : k < n
      · have hkl : Hid (k < l.length) := Lib.hid (by rw [← HN.out]; exact hlt)
        obtain ⟨b1, o1, rfl, hx⟩ := HR1.out.at HN.out hbel hlt
        have hxm : (nth l k).size ≤ 16 := pl.vCells_size HV.out k hkl.out
        obtain ⟨x, HX⟩ : ∃ x, Hid (nth l k = x) := ⟨_, Lib.hid rfl⟩
        rw [HX.out] at hx hxm
        have hdl : Hid ((pl.qTo l k).length = k) := Lib.hid (pl.qTo_len (by have := hkl.out; omega))
        have hst : Hid (pl.qTo l k ++ [pl.quoB x] = pl.qTo l (k + 1)) := Lib.hid (pl.qTo_succ hkl.out (by rw [HX.out]))
        have HBEL := Lib.hid hbel
        have HOWN := Lib.hid hown
        clear hown hbel
        go_wp2_with fail
        refine (squoteCell_any x _ (by omega)).mono ?_
        rintro e w' ⟨rfl, rfl⟩
        go_wp2_with (at_builtin; refine wpList_append_own _ rfl _ _ 23 rfl w1.heap.size 9 i0 (.string ByteArray.empty) 1 16 Tryd.underlying23 hi hz0 hz1 hz2 rfl (by decide) _ _ _ rfl (World.ownsRow.alloc HOWN.out _) ⟨_, 0, none⟩ 1 1 [.string (pl.quoB x)] rfl rfl ?cA1 ?cA2 ?cA3 ?cA4 ?cA5 ?_)
        case cA1 => exact cell_one_new _ _ _
        case cA2 => intro u hu; simp at hu; subst hu; rfl
        case cA3 => rw [hdl.out]; unfold maxLen; omega
        case cA4 => rw [hdl.out]; omega
        case cA5 => have := HBEL.out.size; simp at this ⊢; omega
        intro v' w2 hown' hgrow _
        have hb1 : Below w1.heap.size w1 w2 := (HBEL.out.alloc HBEL.out.size _).grown hgrow (by have := HBEL.out.size; simp at this ⊢; omega) (fun g hg => (World.ownsRow.lt HOWN.out g hg).1)
        have hown1 := OStrs.push1 hown'
        rw [hst.out] at hown1
        clear hown' hgrow
        go_wp2
        go_roundw
        case rel => exact ⟨k + 1, by omega, by go_num, hown1, hb1⟩
        case measure => simp [intOf]; omega
      · obtain rfl : k = n := by omega
        have hown' : OStrs w1.heap.size wr u3 (l.map pl.quoB) := by have := hown; rw [HN.out, pl.qTo_all] at this; exact this
        have HOW := Lib.hid hown'
        have HBEL := Lib.hid hbel
        clear hown hown' hbel
        go_wp2_with fail
        refine (sjoin_any (l.map pl.quoB) pl.comma _ _ HOW.out.reads (by rw [List.length_map]; have := HL.out; omega) (by have := pl.quoJ_size HV.out; omega)).mono ?_
        rintro e w3 ⟨rfl, rfl⟩
        go_wp2_with fail
        go_ret
        exact ⟨by rw [HC.out]; rfl, HB1.out.trans (HBEL.out.mono HB1.out.size)⟩
end Go.Proofs.YtpfheanpbbfpdaaDoor
