/- Contracts: valuesOf, valueOf, validFills. -/
import Derived.Test.YtadlelcckalcoaaMapS
import Derived.Test.YtadlelcckalcoaaPieces
import Derived.Carry
namespace Go.Proofs.Ytadlelcckalcoaa
open Go.RowKit Go.Maps
set_option maxRecDepth 100000
set_option linter.unusedVariables false

namespace pl
def toFL (fl : List Pc) : FL := fl.map fun p => (p.1.data.toList, p.2.data.toList)
def goodAt (fl : List Pc) (i : Nat) : Prop := nameB (nthQ fl i).1.data.toList = true ∧ validT (nthQ fl i).2.data.toList = true ∧ lookL (toFL (fl.take i)) (nthQ fl i).1.data.toList = none
def goodTo (fl : List Pc) (k : Nat) : Prop := ∀ i, i < k → goodAt fl i
/-- fills are at most five, with names that differ, and texts as values -/
def vF (fl : List Pc) : Prop := fl.length ≤ 5 ∧ goodTo fl fl.length
theorem goodTo_zero (fl : List Pc) : goodTo fl 0 := fun i h => absurd h (by omega)
theorem goodTo_next {fl : List Pc} {k : Nat} (h : goodTo fl k) (hk : goodAt fl k) : goodTo fl (k + 1) := by
  intro i hi
  by_cases e : i = k
  · subst e; exact hk
  · exact h i (by omega)
theorem toFL_succ {fl : List Pc} {k : Nat} (h : k < fl.length) : toFL (fl.take (k + 1)) = toFL (fl.take k) ++ [((nthQ fl k).1.data.toList, (nthQ fl k).2.data.toList)] := by
  unfold toFL
  rw [List.take_succ_eq_append_getElem h, List.map_append, nthQ_eq h]; rfl
theorem vF_no {fl : List Pc} {k : Nat} (hk : k < fl.length) (h : ¬ goodAt fl k) : ¬ vF fl := fun hv => h (hv.2 k hk)
theorem look_succ {fl : List Pc} {k : Nat} (h : k < fl.length) (hl : lookL (toFL (fl.take k)) (nthQ fl k).1.data.toList = none) (m : Nm) : (if m = (nthQ fl k).1.data.toList then some (nthQ fl k).2.data.toList else lookL (toFL (fl.take k)) m) = lookL (toFL (fl.take (k + 1))) m := by
  rw [toFL_succ h, lookL_more hl]
end pl

def ValsPost (fl : List pl.Pc) (w : World) (e : Ending) (w' : World) : Prop :=
  Below w.heap.size w w' ∧ ((¬ pl.vF fl ∧ e = .returned (.tuple #[.map none, .bool false])) ∨ (pl.vF fl ∧ ∃ b, w.heap.size ≤ b ∧ e = .returned (.tuple #[.map (some b), .bool true]) ∧ MapV b 5 w' (pl.lookL (pl.toFL fl))))
def RdVals (fl : List pl.Pc) (n B : Nat) (w : World) (iv : Value) (wr : World) : Prop :=
  ∃ i : Nat, i ≤ n ∧ iv = .int .i64 i ∧ Hid (pl.goodTo fl i) ∧ Hid (MapV B i wr (pl.lookL (pl.toFL (fl.take i)))) ∧ Hid (Below B w wr)

set_option maxHeartbeats 4000000 in
theorem valuesOf_any (fl : List pl.Pc) (v : Value) (w : World) (hr : RPc w v fl) (hl : fl.length ≤ 1048576) (hsz : ∀ i, i < fl.length → (pl.nthQ fl i).1.size ≤ 1048576 ∧ (pl.nthQ fl i).2.size ≤ 1048576) :
    Calls Try.prog 87 #[v] w (ValsPost fl w) := by
  have hmm := @run_makeMap Try.prog
  have HR := Lib.hid hr
  have HSZ := Lib.hid hsz
  obtain ⟨a0, c0, rfl⟩ := hr.slice
  obtain ⟨n, HN⟩ : ∃ n, Hid (n = fl.length) := ⟨_, Lib.hid rfl⟩
  rw [← HN.out] at HR hl ⊢
  clear hr hsz
  by_cases h5 : 5 < n
  · have h5i : (5 : Int) < (n : Int) := by omega
    have HV : Hid (¬ pl.vF fl) := Lib.hid (fun h => by have := h.1; rw [← HN.out] at this; omega)
    clear h5
    go_enter Try.func87, Try.ntmps87
    go_wp2_with fail
    go_ret2
    exact ⟨Below.refl _ _, .inl ⟨HV.out, rfl⟩⟩
  · have h5i : ¬ (5 : Int) < (n : Int) := by omega
    go_enter Try.func87, Try.ntmps87
    go_wp2_with fail
    go_loopw [15] (fun iv wr => RdVals fl n w.heap.size w iv wr) (fun iv _ => n - (intOf iv).toNat)
    case atStart => exact ⟨0, Nat.zero_le _, rfl, Lib.hid (pl.goodTo_zero fl), Lib.hid (MapV.made w), Lib.hid ((Below.refl _ _).alloc (Nat.le_refl _) _)⟩
    case round =>
      obtain ⟨i, hi, rfl, HG, HM, HB⟩ := hrel
      have hBlt := HM.out.lt
      by_cases hlt : i < n
      · obtain ⟨b, o, rfl, hbw, c1, c2⟩ := HR.out.at HN.out HB.out hlt
        have hil : i < fl.length := by rw [← HN.out]; exact hlt
        obtain ⟨hz1, hz2⟩ := HSZ.out i hil
        have HNG := Lib.hid (fun hg => pl.vF_no hil hg)
        have HLS := Lib.hid (fun hl => pl.look_succ hil hl)
        have HGA : Hid (pl.goodAt fl i ↔ (pl.nameB (pl.nthQ fl i).1.data.toList = true ∧ pl.validT (pl.nthQ fl i).2.data.toList = true ∧ pl.lookL (pl.toFL (fl.take i)) (pl.nthQ fl i).1.data.toList = none)) := Lib.hid Iff.rfl
        obtain ⟨nm, HNM⟩ : ∃ nm, Hid ((pl.nthQ fl i).1 = nm) := ⟨_, Lib.hid rfl⟩
        obtain ⟨pt, HPT⟩ : ∃ pt, Hid ((pl.nthQ fl i).2 = pt) := ⟨_, Lib.hid rfl⟩
        rw [HNM.out] at c1 HLS HGA hz1
        rw [HPT.out] at c2 HLS HGA hz2
        have hA : Below wr.heap.size wr (wr.alloc (.cells #[.string nm, .string pt] 87)) := (Below.refl _ _).alloc (Nat.le_refl _) _
        have HMA := Lib.hid (HM.out.below hA (Nat.le_refl _))
        have HBA := Lib.hid (HB.out.trans (hA.mono HB.out.size))
        have hk0 : (wr.alloc (.cells #[.string nm, .string pt] 87)).cell? ⟨wr.heap.size, 0, none⟩ = some (.string nm) := by simp
        have hk1 : (wr.alloc (.cells #[.string nm, .string pt] 87)).cell? ⟨wr.heap.size, 1, none⟩ = some (.string pt) := by simp
        have hsA : wr.heap.size < (wr.alloc (.cells #[.string nm, .string pt] 87)).heap.size := by simp
        clear hil hA
        cases hlk : pl.lookL (pl.toFL (fl.take i)) nm.data.toList with
        | some x =>
          have HLK := Lib.hid hlk
          have HE : Hid (¬ pl.vF fl) := Lib.hid (HNG.out (fun h => by have := (HGA.out.1 h).2.2; rw [hlk] at this; cases this))
          clear hlk hk0 hk1 hsA
          go_wp2_with (at_lookup; refine wpList_look_some rfl _ _ rfl w.heap.size i _ rfl HMA.out nm rfl (by unfold maxLen; omega) x HLK.out ?_)
          go_ret2
          exact ⟨HBA.out, .inl ⟨HE.out, rfl⟩⟩
        | none =>
          have HLK := Lib.hid hlk
          clear hlk
          have HK0 := Lib.hid hk0
          have HK1 := Lib.hid hk1
          clear hk0 hk1
          go_wp2_with (at_lookup; refine wpList_look_none rfl _ _ rfl w.heap.size i _ rfl HMA.out nm rfl (by unfold maxLen; omega) HLK.out ?_)
          refine (iisName_any nm _ (by unfold maxLen; omega)).mono ?_
          rintro e w2 ⟨rfl, hb2⟩
          have HM2 := Lib.hid (HMA.out.below hb2 (Nat.le_refl _))
          have HB2 := Lib.hid (HBA.out.trans (hb2.mono HBA.out.size))
          have k20 : w2.cell? ⟨wr.heap.size, 0, none⟩ = some (.string nm) := (hb2.cell (p := ⟨wr.heap.size, 0, none⟩) hsA).trans HK0.out
          have k21 : w2.cell? ⟨wr.heap.size, 1, none⟩ = some (.string pt) := (hb2.cell (p := ⟨wr.heap.size, 1, none⟩) hsA).trans HK1.out
          have hs2 : wr.heap.size < w2.heap.size := Nat.lt_of_lt_of_le hsA hb2.size
          clear hb2 hsA
          cases hnm : pl.nameB nm.data.toList with
          | false =>
            have HE : Hid (¬ pl.vF fl) := Lib.hid (HNG.out (fun h => by have := (HGA.out.1 h).1; rw [hnm] at this; cases this))
            clear hnm k20 k21
            go_wp2_with fail
            go_ret2
            exact ⟨HB2.out, .inl ⟨HE.out, rfl⟩⟩
          | true =>
            have HNB := Lib.hid hnm
            clear hnm
            go_wp2_with fail
            refine (iValidText_any pt _ (by unfold maxLen; omega)).mono ?_
            rintro e w3 ⟨rfl, hb3⟩
            have HM3 := Lib.hid (HM2.out.below hb3 (Nat.le_refl _))
            have HB3 := Lib.hid (HB2.out.trans (hb3.mono HB2.out.size))
            have k30 : w3.cell? ⟨wr.heap.size, 0, none⟩ = some (.string nm) := (hb3.cell (p := ⟨wr.heap.size, 0, none⟩) hs2).trans k20
            have k31 : w3.cell? ⟨wr.heap.size, 1, none⟩ = some (.string pt) := (hb3.cell (p := ⟨wr.heap.size, 1, none⟩) hs2).trans k21
            clear hb3 hs2 k20 k21
            cases hvt : pl.validT pt.data.toList with
            | false =>
              have HE : Hid (¬ pl.vF fl) := Lib.hid (HNG.out (fun h => by have := (HGA.out.1 h).2.1; rw [hvt] at this; cases this))
              clear hvt k30 k31
              go_wp2_with fail
              go_ret2
              exact ⟨HB3.out, .inl ⟨HE.out, rfl⟩⟩
            | true =>
              have HGN := Lib.hid (pl.goodTo_next HG.out (HGA.out.2 ⟨HNB.out, hvt, HLK.out⟩))
              clear hvt
              go_wp2_with (at_mapUpdate; refine wpList_put_new rfl _ _ _ rfl w.heap.size i _ rfl HM3.out (by unfold maxLen; omega) nm pt rfl rfl (by unfold maxLen; omega) (by unfold maxLen; omega) ?_)
              intro w4 hm4 hg4
              have HM4 := Lib.hid (hm4.congr' (HLS.out HLK.out))
              have HB4 := Lib.hid (HB3.out.grown hg4 HB3.out.size (fun k hk => by cases hk; exact Nat.le_refl _))
              clear hm4 hg4
              go_wp2
              go_roundw
              case rel => exact ⟨i + 1, by omega, by go_num, HGN, HM4, HB4⟩
              case measure => simp [intOf]; omega
      · obtain rfl : i = n := by omega
        have HV : Hid (pl.vF fl) := Lib.hid ⟨by rw [← HN.out]; omega, by rw [← HN.out]; exact HG.out⟩
        have HME : Hid (MapV w.heap.size 5 wr (pl.lookL (pl.toFL fl))) := Lib.hid (by
          have := HM.out
          rw [HN.out, List.take_length] at this
          exact this.mono (by rw [← HN.out]; omega))
        go_wp2_with fail
        go_ret2
        exact ⟨HB.out, .inr ⟨HV.out, _, Nat.le_refl _, rfl, HME.out⟩⟩
end Go.Proofs.Ytadlelcckalcoaa
