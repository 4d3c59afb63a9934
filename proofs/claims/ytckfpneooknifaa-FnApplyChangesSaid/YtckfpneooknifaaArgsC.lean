/- Contracts: the exact laws' helpers on slices of changes: szChangeS, toChangeS, eqChangeS; the laws' equalChanges. -/
import Derived.Test.YtckfpneooknifaaChO
import Derived.Deep.RegionWith
import Derived.Deep.Cut
namespace Go.Proofs.Ytckfpneooknifaa
open Go.RowKit
set_option maxRecDepth 100000
set_option linter.unusedVariables false

theorem infoCs : (Try.prog.info? 79).map (·.size) = some 2 := by kernel_rfl

/-- a slice of changes that came in -/
def IsChs (w : World) (a : Option Addr) (len cap : Nat) : Prop :=
  (a = none ∧ len = 0 ∧ cap = 0) ∨
  ∃ x, a = some x ∧ len ≤ cap ∧ cap ≤ maxLen ∧ ∀ i, i < len → ∃ (s0 : Int) (s1 : ByteArray), w.cell? (x.add (i * 2)) = some (.int .i64 s0) ∧ w.cell? (x.add (i * 2 + 1)) = some (.string s1) ∧ (Lit.int .i64 s0).wf = true ∧ s1.size ≤ maxLen

theorem IsChs.reads {w : World} {a : Option Addr} {len cap : Nat} (h : IsChs w a len cap) : ∃ fl, RCh w (.slice a len cap) fl ∧ fl.length = len ∧ len ≤ maxLen ∧ ∀ i, i < fl.length → (Lit.int .i64 (pl.nthH fl i).1).wf = true ∧ (pl.nthH fl i).2.size ≤ maxLen := by
  rcases h with ⟨rfl, rfl, rfl⟩ | ⟨x, rfl, hl, hm, hc⟩
  · exact ⟨[], .inl ⟨rfl, _, _, rfl⟩, rfl, Nat.zero_le _, fun i h => by simp at h⟩
  · by_cases h0 : len = 0
    · subst h0
      exact ⟨[], .inl ⟨rfl, _, _, rfl⟩, rfl, Nat.zero_le _, fun i h => by simp at h⟩
    obtain ⟨f, hf⟩ : ∃ f : Nat → pl.Ch, ∀ r, r < len → w.cell? (x.add (r * 2)) = some (.int .i64 (f r).1) ∧ w.cell? (x.add (r * 2 + 1)) = some (.string (f r).2) ∧ (Lit.int .i64 (f r).1).wf = true ∧ (f r).2.size ≤ maxLen :=
      ⟨fun r => if h : r < len then (Classical.choose (hc r h), Classical.choose (Classical.choose_spec (hc r h))) else (0, ⟨#[]⟩), fun r hr => by
        simp only [hr, dite_true]
        exact Classical.choose_spec (Classical.choose_spec (hc r hr))⟩
    have hln : ((List.range len).map f).length = len := by simp
    have hnth : ∀ r, r < len → pl.nthH ((List.range len).map f) r = f r := by
      intro r hr
      rw [pl.nthH_eq (by rw [hln]; exact hr)]; simp
    obtain ⟨b, off, spot⟩ := x
    obtain ⟨hu0, _⟩ := hf 0 (by omega)
    have hspot : spot = none := by simpa [Addr.add] using World.cell?_spot hu0
    subst hspot
    have hadd : ∀ i, (⟨b, off, none⟩ : Addr).add i = ⟨b, off + i, none⟩ := fun i => by unfold Addr.add; split <;> simp_all
    refine ⟨(List.range len).map f, .inr ⟨by rw [hln]; omega, b, off, cap, by rw [hln], ?_, fun i hi => ?_⟩, hln, by omega, fun i hi => ?_⟩
    · have := World.block_lt_of_cell? w _ hu0
      rw [hadd] at this; exact this
    · rw [hln] at hi
      obtain ⟨h1, h2, _⟩ := hf i hi
      rw [hadd] at h1 h2
      rw [hnth i hi]
      exact ⟨h1, by rw [Nat.add_assoc]; exact h2⟩
    · rw [hln] at hi
      obtain ⟨_, _, h3, h4⟩ := hf i hi
      rw [hnth i hi]; exact ⟨h3, h4⟩

set_option maxHeartbeats 1000000 in
theorem szChange_any (x : Int) (y : ByteArray) (Q : Nat) (w : World) (hy : y.size ≤ maxLen) (hQ : Q ≤ 1048576) :
    Calls Try.prog 78 #[.agg #[.int .i64 x, .string y], .int .i64 Q] w fun e w' => (∃ r : Int, e = .returned (.int .i64 r) ∧ (r < 0 ∨ (0 ≤ r ∧ r + y.size ≤ Q))) ∧ Below w.heap.size w w' := by
  unfold maxLen at hy
  have HB : Hid (Below w.heap.size w (w.alloc (.cells #[.int .i64 x, .string y] 89))) := Lib.hid ((Below.refl _ _).alloc (Nat.le_refl _) _)
  by_cases h1 : Q < y.size
  · go_enter Try.func78, Try.ntmps78
    go_wp2_with fail
    go_ret
    exact ⟨⟨-1, rfl, .inl (by omega)⟩, HB.out⟩
  · go_enter Try.func78, Try.ntmps78
    go_wp2_with fail
    go_ret
    exact ⟨⟨_, rfl, .inr ⟨by omega, by omega⟩⟩, HB.out⟩

theorem second_block (w1 : World) (n : Nat) (h : w1.heap.size = n) (a b : Obj) : ((w1.alloc a).alloc b).heap[n]? = some a := by
  subst h
  have hb : Below (w1.alloc a).heap.size (w1.alloc a) ((w1.alloc a).alloc b) := (Below.refl _ _).alloc (Nat.le_refl _) b
  exact (hb.block w1.heap.size (by simp)).trans (by show (w1.heap.push a)[w1.heap.size]? = some a; simp)
set_option maxHeartbeats 1000000 in
theorem toChange_any (x : Int) (y : ByteArray) (w : World) :
    Calls Try.prog 79 #[.agg #[.int .i64 x, .string y]] w fun e w' => e = .returned (.agg #[.int .i64 x, .string y]) ∧ Below w.heap.size w w' := by
  have HINF := Lib.hid infoCs
  go_enter Try.func79, Try.ntmps79
  go_wp2_with fail
  have hA : Below w.heap.size w (w.alloc (.cells #[.int .i64 x, .string y] 89)) := (Below.refl _ _).alloc (Nat.le_refl _) _
  have hB := hA.alloc hA.size (.cells #[.int .i64 x, .string y] 79)
  have hC := hB.alloc hB.size (.cells #[.int .i64 x, .string y] 79)
  refine bodyPost_ret (v := .agg #[.int .i64 x, .string y]) ?_ rfl ⟨rfl, hC⟩
  exact results_cell_row rfl _ _ (w.heap.size + 1) _ _ _ _ rfl (second_block _ _ (by simp) _ _) Try.underlying79 rfl HINF.out

set_option maxHeartbeats 1000000 in
theorem eqChange_any (x : Int) (y : ByteArray) (w : World) :
    Calls Try.prog 80 #[.agg #[.int .i64 x, .string y], .agg #[.int .i64 x, .string y]] w fun e w' => e = .returned (.bool true) ∧ Below w.heap.size w w' := by
  have hx : (x != x) = false := by simp
  have hy : (y.toList != y.toList) = false := by simp
  have hA : Below w.heap.size w (w.alloc (.cells #[.int .i64 x, .string y] 79)) := (Below.refl _ _).alloc (Nat.le_refl _) _
  have HB : Hid (Below w.heap.size w ((w.alloc (.cells #[.int .i64 x, .string y] 79)).alloc (.cells #[.int .i64 x, .string y] 79))) := Lib.hid (hA.alloc hA.size _)
  clear hA
  go_enter Try.func80, Try.ntmps80
  go_wp2_with fail
  go_ret
  exact ⟨rfl, HB.out⟩

/-- changes within the bound -/
def SmallC (fl : List pl.Ch) : Prop := fl.length ≤ 1048576 ∧ ∀ i, i < fl.length → (pl.nthH fl i).2.size ≤ 1048576

set_option maxHeartbeats 2000000 in
theorem szChangeS_any (fl : List pl.Ch) (v : Value) (Q : Nat) (w : World) (hr : RCh w v fl) (hQ : Q ≤ 1048576) (hlen : fl.length ≤ maxLen) (hsz : ∀ i, i < fl.length → (pl.nthH fl i).2.size ≤ maxLen) :
    Calls Try.prog 46 #[v, .int .i64 Q] w fun e w' => (∃ r : Int, e = .returned (.int .i64 r) ∧ (r < 0 ∨ (0 ≤ r ∧ SmallC fl))) ∧ Below w.heap.size w w' := by
  unfold maxLen at hlen
  have HR := Lib.hid hr
  have HSZ := Lib.hid hsz
  obtain ⟨a0, c0, rfl⟩ := hr.slice
  obtain ⟨n, HN⟩ : ∃ n, Hid (n = fl.length) := ⟨_, Lib.hid rfl⟩
  rw [← HN.out] at HR hlen ⊢
  clear hr hsz
  by_cases hbig : Q < n
  · go_enter Try.func46, Try.ntmps46
    go_wp2_with fail
    go_ret
    exact ⟨⟨-1, rfl, .inl (by omega)⟩, Below.refl _ _⟩
  · go_enter Try.func46, Try.ntmps46
    go_wp2_with fail
    go_loopw [1, 5] (fun lv iv wr => ∃ (k q : Nat), k ≤ n ∧ q ≤ Q ∧ lv = .int .i64 q ∧ iv = .int .i64 k ∧ Hid (∀ i, i < k → (pl.nthH fl i).2.size ≤ 1048576) ∧ Hid (Below w.heap.size w wr)) (fun _ iv _ => n - (intOf iv).toNat)
    case atStart => exact ⟨0, Q - n, Nat.zero_le _, by omega, by go_num, rfl, Lib.hid (fun i h => by omega), Lib.hid (Below.refl _ _)⟩
    case round =>
      obtain ⟨k, q, hk, hq, rfl, rfl, HS, HB⟩ := hrel
      by_cases hlt : k < n
      · obtain ⟨b, o, rfl, hbw, c1, c2⟩ := HR.out.at HN.out HB.out hlt
        have hil : k < fl.length := by rw [← HN.out]; exact hlt
        have hz2 := HSZ.out k hil
        obtain ⟨nm, HNM⟩ : ∃ nm, Hid ((pl.nthH fl k).1 = nm) := ⟨_, Lib.hid rfl⟩
        obtain ⟨pt, HPT⟩ : ∃ pt, Hid ((pl.nthH fl k).2 = pt) := ⟨_, Lib.hid rfl⟩
        rw [HNM.out] at c1
        rw [HPT.out] at c2 hz2
        clear hil
        go_wp2_with fail
        refine (szChange_any nm pt q _ hz2 (by omega)).mono ?_
        rintro e w2 ⟨⟨r, rfl, hres⟩, hb2⟩
        have HB2 := Lib.hid (HB.out.trans (hb2.mono HB.out.size))
        clear hb2
        rcases hres with hneg | ⟨hpos, hle⟩
        · go_wp2_with fail
          go_ret
          exact ⟨⟨-1, rfl, .inl (by omega)⟩, HB2.out⟩
        · obtain ⟨r, rfl⟩ := Int.eq_ofNat_of_zero_le hpos
          have hneg : ¬ (r : Int) < 0 := by omega
          have HS2 : Hid (∀ i, i < k + 1 → (pl.nthH fl i).2.size ≤ 1048576) := Lib.hid (fun i hi => by
            by_cases e : i = k
            · subst e; rw [HPT.out]; omega
            · exact HS.out i (by omega))
          go_wp2_with fail
          go_roundw
          case rel => exact ⟨k + 1, r, by omega, by omega, rfl, by go_num, HS2, HB2⟩
          case measure => simp [intOf]; omega
      · obtain rfl : k = n := by omega
        have HS2 : Hid (SmallC fl) := Lib.hid ⟨by rw [← HN.out]; omega, by rw [← HN.out]; exact HS.out⟩
        go_wp2_with fail
        go_ret
        exact ⟨⟨_, rfl, .inr ⟨by omega, HS2.out⟩⟩, HB.out⟩

set_option maxHeartbeats 4000000 in
theorem toChangeS_any (fl : List pl.Ch) (v : Value) (w : World) (hr : RCh w v fl) (hl : fl.length ≤ 1048576) :
    Calls Try.prog 47 #[v] w fun e w' => ∃ v', e = .returned v' ∧ OCh w.heap.size w' v' fl ∧ Below w.heap.size w w' := by
  obtain ⟨i0, hi, hz0, hz1, hz2⟩ := info_parts infoCh
  have HR := Lib.hid hr
  obtain ⟨a0, c0, rfl⟩ := hr.slice
  obtain ⟨n, HN⟩ : ∃ n, Hid (n = fl.length) := ⟨_, Lib.hid rfl⟩
  rw [← HN.out] at HR hl ⊢
  clear hr
  go_enter Try.func47, Try.ntmps47
  go_wp2_with (at_make; refine wpList_make_full _ rfl _ _ 33 rfl w.heap.size 79 i0 (.agg #[.int .i64 0, .string ByteArray.empty]) 2 Try.underlying33 hi hz0 hz1 _ _ _ _ n rfl rfl rfl rfl ?b1 ?b2 ?b3 ?_)
  case b1 => rw [hz2]; omega
  case b2 => unfold maxLen; omega
  case b3 => exact Nat.le_refl _
  intro w1 hown hgrow
  have hb0 : Below w.heap.size w w1 := (Below.refl _ _).grown hgrow (Nat.le_refl _) (fun g hg => by cases hg)
  have HO0 : Hid (OPr 79 w.heap.size w1 (.slice (some ⟨w.heap.size, 0, none⟩) n n) n (List.replicate n (.int .i64 0, .string ByteArray.empty))) := Lib.hid (by
    show w1.ownsRow _ _ _ _ _ _
    rw [← made_pairs]; exact hown)
  have HB0 := Lib.hid hb0
  clear hown hgrow hb0
  go_wp2_with fail
  go_loopw [4] (fun iv wr => ∃ (k : Nat) (cs : List Pr), k ≤ n ∧ iv = .int .i64 k ∧ Hid (OPr 79 w.heap.size wr (.slice (some ⟨w.heap.size, 0, none⟩) n n) n cs) ∧ Hid (FirstC fl cs k) ∧ Hid (Below w.heap.size w wr)) (fun iv _ => n - (intOf iv).toNat)
  case atStart => exact ⟨0, _, Nat.zero_le _, rfl, HO0, Lib.hid (fun i h => absurd h (by omega)), HB0⟩
  case round =>
    obtain ⟨k, cs, hk, rfl, HO, HF, HB⟩ := hrel
    by_cases hlt : k < n
    · obtain ⟨b, o, rfl, hbw, c1, c2⟩ := HR.out.at HN.out HB.out hlt
      obtain ⟨nm, HNM⟩ : ∃ nm, Hid ((pl.nthH fl k).1 = nm) := ⟨_, Lib.hid rfl⟩
      obtain ⟨pt, HPT⟩ : ∃ pt, Hid ((pl.nthH fl k).2 = pt) := ⟨_, Lib.hid rfl⟩
      rw [HNM.out] at c1
      rw [HPT.out] at c2
      go_wp2_with fail
      refine (toChange_any nm pt _).mono ?_
      rintro e w2 ⟨rfl, hb2⟩
      have HO2 := Lib.hid (pr_below HO.out hb2)
      have HB2 := Lib.hid (HB.out.trans (hb2.mono HB.out.size))
      clear hb2 c1 c2
      obtain ⟨pc0, pc1, pf0, pf1⟩ := pr_cells HO2.out hlt
      obtain ⟨ps0, pg0, pc2, pf2⟩ := pr_store HO2.out hlt (.int .i64 nm) (.string pt)
      have HP0 := Lib.hid ps0
      have HF2 := Lib.hid (HF.out.push (by rw [pr_len HO.out]; exact hlt) HNM.out HPT.out)
      have HB3 := Lib.hid (HB2.out.trans (below_of_grown pg0 HB2.out.size (fun g hg => by cases hg; exact Nat.le_refl _)))
      clear ps0 pg0
      go_wp2_with fail
      go_roundw
      case rel => exact ⟨k + 1, _, by omega, by go_num, HP0, HF2, HB3⟩
      case measure => simp [intOf]; omega
    · obtain rfl : k = n := by omega
      have HE := Lib.hid (made_changes HO.out HN.out HF.out)
      go_wp2_with fail
      go_ret
      exact ⟨_, rfl, HE.out, HB.out⟩

set_option maxHeartbeats 4000000 in
theorem eqChangeS_same (fl : List pl.Ch) (u v : Value) (w : World) (hu : RCh w u fl) (hv : RCh w v fl) (hl : fl.length ≤ 1048576) :
    Calls Try.prog 48 #[u, v] w fun e w' => e = .returned (.bool true) ∧ Below w.heap.size w w' := by
  have HU := Lib.hid hu
  have HV := Lib.hid hv
  obtain ⟨au, cu, rfl⟩ := hu.slice
  obtain ⟨av, cv, rfl⟩ := hv.slice
  obtain ⟨n, HN⟩ : ∃ n, Hid (n = fl.length) := ⟨_, Lib.hid rfl⟩
  rw [← HN.out] at HU HV hl ⊢
  clear hu hv
  go_enter Try.func48, Try.ntmps48
  have hbn : ((n : Int) != (n : Int)) = false := by simp
  go_wp2_with fail
  go_loopw [5] (fun iv wr => ∃ k : Nat, k ≤ n ∧ iv = .int .i64 k ∧ Hid (Below w.heap.size w wr)) (fun iv _ => n - (intOf iv).toNat)
  case atStart => exact ⟨0, Nat.zero_le _, rfl, Lib.hid (Below.refl _ _)⟩
  case round =>
    obtain ⟨k, hk, rfl, HB⟩ := hrel
    by_cases hlt : k < n
    · obtain ⟨b, o, rfl, hbw, c1, c2⟩ := HU.out.at HN.out HB.out hlt
      obtain ⟨b', o', rfl, hbw', d1, d2⟩ := HV.out.at HN.out HB.out hlt
      obtain ⟨nm, HNM⟩ : ∃ nm, Hid ((pl.nthH fl k).1 = nm) := ⟨_, Lib.hid rfl⟩
      obtain ⟨pt, HPT⟩ : ∃ pt, Hid ((pl.nthH fl k).2 = pt) := ⟨_, Lib.hid rfl⟩
      rw [HNM.out] at c1 d1
      rw [HPT.out] at c2 d2
      go_wp2_with fail
      go_region_with (go_at_call 80; refine (eqChange_any nm pt _).mono ?_; rintro e w2 ⟨rfl, hb2⟩; have HBQ := Lib.hid hb2; clear hb2)
      all_goals
        have hbw2 : Below wr.heap.size wr w2 := by first | exact HBQ.out | exact (Below.refl _ _).drew.trans HBQ.out | exact (Below.refl _ _).drew.drew.trans HBQ.out
        have HB2 := Lib.hid (HB.out.trans (hbw2.mono HB.out.size))
        clear hbw2 c1 c2 d1 d2
        go_wp2_with fail
        go_roundw
        case rel => exact ⟨k + 1, by omega, by go_num, HB2⟩
        case measure => simp [intOf]; omega
    · obtain rfl : k = n := by omega
      go_wp2_with fail
      go_ret
      exact ⟨rfl, HB.out⟩
end Go.Proofs.Ytckfpneooknifaa
