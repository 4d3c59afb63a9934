/- Contracts: the exact laws' helpers on slices of fills: szFillS, toFillS, eqFillS. -/
import Derived.Test.YtadlelcckalcoaaFillI
import Derived.Test.YtadlelcckalcoaaPairs
import Derived.Deep.RegionWith
namespace Go.Proofs.Ytadlelcckalcoaa
open Go.RowKit
set_option maxRecDepth 100000
set_option linter.unusedVariables false

theorem infoFi : (Try.prog.info? 87).map (fun i => (i.zero, i.size, i.bytes)) = some (some (.agg #[.string ByteArray.empty, .string ByteArray.empty]), 2, 32) := by kernel_rfl
theorem infoFs : (Try.prog.info? 87).map (·.size) = some 2 := by kernel_rfl

/-- a slice of fills that came in -/
def IsFills (w : World) (a : Option Addr) (len cap : Nat) : Prop :=
  (a = none ∧ len = 0 ∧ cap = 0) ∨
  ∃ x, a = some x ∧ len ≤ cap ∧ cap ≤ maxLen ∧ ∀ i, i < len → ∃ s0 s1 : ByteArray, w.cell? (x.add (i * 2)) = some (.string s0) ∧ w.cell? (x.add (i * 2 + 1)) = some (.string s1) ∧ s0.size ≤ maxLen ∧ s1.size ≤ maxLen

theorem IsFills.reads {w : World} {a : Option Addr} {len cap : Nat} (h : IsFills w a len cap) : ∃ fl, RPc w (.slice a len cap) fl ∧ fl.length = len ∧ len ≤ maxLen ∧ ∀ i, i < fl.length → (pl.nthQ fl i).1.size ≤ maxLen ∧ (pl.nthQ fl i).2.size ≤ maxLen := by
  rcases h with ⟨rfl, rfl, rfl⟩ | ⟨x, rfl, hl, hm, hc⟩
  · exact ⟨[], .inl ⟨rfl, _, _, rfl⟩, rfl, Nat.zero_le _, fun i h => by simp at h⟩
  · by_cases h0 : len = 0
    · subst h0
      exact ⟨[], .inl ⟨rfl, _, _, rfl⟩, rfl, Nat.zero_le _, fun i h => by simp at h⟩
    obtain ⟨f, hf⟩ : ∃ f : Nat → pl.Pc, ∀ r, r < len → w.cell? (x.add (r * 2)) = some (.string (f r).1) ∧ w.cell? (x.add (r * 2 + 1)) = some (.string (f r).2) ∧ (f r).1.size ≤ maxLen ∧ (f r).2.size ≤ maxLen :=
      ⟨fun r => if h : r < len then (Classical.choose (hc r h), Classical.choose (Classical.choose_spec (hc r h))) else (⟨#[]⟩, ⟨#[]⟩), fun r hr => by
        simp only [hr, dite_true]
        exact Classical.choose_spec (Classical.choose_spec (hc r hr))⟩
    have hln : ((List.range len).map f).length = len := by simp
    have hnth : ∀ r, r < len → pl.nthQ ((List.range len).map f) r = f r := by
      intro r hr
      rw [pl.nthQ_eq (by rw [hln]; exact hr)]; simp
    obtain ⟨b, off, spot⟩ := x
    obtain ⟨hu0, _⟩ := hf 0 (by omega)
    have hspot : spot = none := by simpa [Addr.add] using World.cell?_spot hu0
    subst hspot
    have hadd : ∀ i, (⟨b, off, none⟩ : Addr).add i = ⟨b, off + i, none⟩ := fun i => by unfold Addr.add; split <;> simp_all
    refine ⟨(List.range len).map f, .inr ⟨by rw [hln]; omega, b, off, cap, by rw [hln], ?_, fun i hi => ?_⟩, hln, by omega, fun i hi => ?_⟩
    · have := World.block_lt_of_cell? w _ hu0
      rw [hadd] at this; exact this
    · rw [hln] at hi
      obtain ⟨h1, h2, _⟩ := hf i hi
      rw [hadd] at h1 h2
      rw [hnth i hi]
      exact ⟨h1, by rw [Nat.add_assoc]; exact h2⟩
    · rw [hln] at hi
      obtain ⟨_, _, h3, h4⟩ := hf i hi
      rw [hnth i hi]; exact ⟨h3, h4⟩

set_option maxHeartbeats 1000000 in
theorem szFill_any (x y : ByteArray) (Q : Nat) (w : World) (hx : x.size ≤ maxLen) (hy : y.size ≤ maxLen) (hQ : Q ≤ 1048576) :
    Calls Try.prog 71 #[.agg #[.string x, .string y], .int .i64 Q] w fun e w' => (∃ r : Int, e = .returned (.int .i64 r) ∧ (r < 0 ∨ (0 ≤ r ∧ r + x.size + y.size ≤ Q))) ∧ Below w.heap.size w w' := by
  unfold maxLen at hx hy
  have HB : Hid (Below w.heap.size w (w.alloc (.cells #[.string x, .string y] 105))) := Lib.hid ((Below.refl _ _).alloc (Nat.le_refl _) _)
  by_cases h1 : Q < x.size
  · go_enter Try.func71, Try.ntmps71
    go_wp2_with fail
    go_ret
    exact ⟨⟨-1, rfl, .inl (by omega)⟩, HB.out⟩
  · by_cases h2 : Q - x.size < y.size
    · go_enter Try.func71, Try.ntmps71
      go_wp2_with fail
      go_ret
      exact ⟨⟨-1, rfl, .inl (by omega)⟩, HB.out⟩
    · go_enter Try.func71, Try.ntmps71
      go_wp2_with fail
      go_ret
      exact ⟨⟨_, rfl, .inr ⟨by omega, by omega⟩⟩, HB.out⟩

theorem second_heap (w1 : World) (n : Nat) (h : w1.heap.size = n) (a b : Obj) : ((w1.alloc a).alloc b).heap[n]? = some a := by
  subst h
  have hb : Below (w1.alloc a).heap.size (w1.alloc a) ((w1.alloc a).alloc b) := (Below.refl _ _).alloc (Nat.le_refl _) b
  exact (hb.block w1.heap.size (by simp)).trans (by show (w1.heap.push a)[w1.heap.size]? = some a; simp)
set_option maxHeartbeats 1000000 in
theorem toFill_any (x y : ByteArray) (w : World) :
    Calls Try.prog 74 #[.agg #[.string x, .string y]] w fun e w' => e = .returned (.agg #[.string x, .string y]) ∧ Below w.heap.size w w' := by
  obtain ⟨j0, hj, hj0⟩ := Option.map_eq_some_iff.1 infoFs
  have HINF := Lib.hid infoFs
  obtain ⟨w1, HW⟩ : ∃ w1, Hid (w.alloc (.cells #[.string x, .string y] 105) = w1) := ⟨_, Lib.hid rfl⟩
  have hz1 : w1.heap.size = w.heap.size + 1 := by rw [← HW.out]; simp
  have c0 : w1.cell? ⟨w.heap.size, 0, none⟩ = some (.string x) := by rw [← HW.out]; simp
  have c1 : w1.cell? ⟨w.heap.size, 1, none⟩ = some (.string y) := by rw [← HW.out]; simp
  go_enter Try.func74, Try.ntmps74
  go_wp2_with fail
  have hA : Below w.heap.size w (w.alloc (.cells #[.string x, .string y] 105)) := (Below.refl _ _).alloc (Nat.le_refl _) _
  have hB := hA.alloc hA.size (.cells #[.string x, .string y] 87)
  have hC := hB.alloc hB.size (.cells #[.string x, .string y] 87)
  refine bodyPost_ret (v := .agg #[.string x, .string y]) ?_ rfl ⟨rfl, hC⟩
  exact results_cell_row rfl _ _ (w.heap.size + 1) _ _ _ _ rfl (second_heap _ _ (by simp) _ _) Try.underlying87 rfl HINF.out

set_option maxHeartbeats 1000000 in
theorem eqFill_any (x y : ByteArray) (w : World) :
    Calls Try.prog 75 #[.agg #[.string x, .string y], .agg #[.string x, .string y]] w fun e w' => e = .returned (.bool true) ∧ Below w.heap.size w w' := by
  have hx : (x.toList != x.toList) = false := by simp
  have hy : (y.toList != y.toList) = false := by simp
  have hA : Below w.heap.size w (w.alloc (.cells #[.string x, .string y] 87)) := (Below.refl _ _).alloc (Nat.le_refl _) _
  have HB : Hid (Below w.heap.size w ((w.alloc (.cells #[.string x, .string y] 87)).alloc (.cells #[.string x, .string y] 87))) := Lib.hid (hA.alloc hA.size _)
  clear hA
  go_enter Try.func75, Try.ntmps75
  go_wp2_with fail
  go_ret
  exact ⟨rfl, HB.out⟩

/-- fills within the bound -/
def SmallF (fl : List pl.Pc) : Prop := fl.length ≤ 1048576 ∧ ∀ i, i < fl.length → (pl.nthQ fl i).1.size ≤ 1048576 ∧ (pl.nthQ fl i).2.size ≤ 1048576

set_option maxHeartbeats 2000000 in
theorem szFillS_any (fl : List pl.Pc) (v : Value) (Q : Nat) (w : World) (hr : RPc w v fl) (hQ : Q ≤ 1048576) (hlen : fl.length ≤ maxLen) (hsz : ∀ i, i < fl.length → (pl.nthQ fl i).1.size ≤ maxLen ∧ (pl.nthQ fl i).2.size ≤ maxLen) :
    Calls Try.prog 35 #[v, .int .i64 Q] w fun e w' => (∃ r : Int, e = .returned (.int .i64 r) ∧ (r < 0 ∨ (0 ≤ r ∧ SmallF fl))) ∧ Below w.heap.size w w' := by
  unfold maxLen at hlen
  have HR := Lib.hid hr
  have HSZ := Lib.hid hsz
  obtain ⟨a0, c0, rfl⟩ := hr.slice
  obtain ⟨n, HN⟩ : ∃ n, Hid (n = fl.length) := ⟨_, Lib.hid rfl⟩
  rw [← HN.out] at HR hlen ⊢
  clear hr hsz
  by_cases hbig : Q < n
  · go_enter Try.func35, Try.ntmps35
    go_wp2_with fail
    go_ret
    exact ⟨⟨-1, rfl, .inl (by omega)⟩, Below.refl _ _⟩
  · go_enter Try.func35, Try.ntmps35
    go_wp2_with fail
    go_loopw [1, 5] (fun lv iv wr => ∃ (k q : Nat), k ≤ n ∧ q ≤ Q ∧ lv = .int .i64 q ∧ iv = .int .i64 k ∧ Hid (∀ i, i < k → (pl.nthQ fl i).1.size ≤ 1048576 ∧ (pl.nthQ fl i).2.size ≤ 1048576) ∧ Hid (Below w.heap.size w wr)) (fun _ iv _ => n - (intOf iv).toNat)
    case atStart => exact ⟨0, Q - n, Nat.zero_le _, by omega, by go_num, rfl, Lib.hid (fun i h => by omega), Lib.hid (Below.refl _ _)⟩
    case round =>
      obtain ⟨k, q, hk, hq, rfl, rfl, HS, HB⟩ := hrel
      by_cases hlt : k < n
      · obtain ⟨b, o, rfl, hbw, c1, c2⟩ := HR.out.at HN.out HB.out hlt
        have hil : k < fl.length := by rw [← HN.out]; exact hlt
        obtain ⟨hz1, hz2⟩ := HSZ.out k hil
        obtain ⟨nm, HNM⟩ : ∃ nm, Hid ((pl.nthQ fl k).1 = nm) := ⟨_, Lib.hid rfl⟩
        obtain ⟨pt, HPT⟩ : ∃ pt, Hid ((pl.nthQ fl k).2 = pt) := ⟨_, Lib.hid rfl⟩
        rw [HNM.out] at c1 hz1
        rw [HPT.out] at c2 hz2
        clear hil
        go_wp2_with fail
        refine (szFill_any nm pt q _ hz1 hz2 (by omega)).mono ?_
        rintro e w2 ⟨⟨r, rfl, hres⟩, hb2⟩
        have HB2 := Lib.hid (HB.out.trans (hb2.mono HB.out.size))
        clear hb2
        rcases hres with hneg | ⟨hpos, hle⟩
        · go_wp2_with fail
          go_ret
          exact ⟨⟨-1, rfl, .inl (by omega)⟩, HB2.out⟩
        · obtain ⟨r, rfl⟩ := Int.eq_ofNat_of_zero_le hpos
          have hneg : ¬ (r : Int) < 0 := by omega
          have HS2 : Hid (∀ i, i < k + 1 → (pl.nthQ fl i).1.size ≤ 1048576 ∧ (pl.nthQ fl i).2.size ≤ 1048576) := Lib.hid (fun i hi => by
            by_cases e : i = k
            · subst e; rw [HNM.out, HPT.out]; omega
            · exact HS.out i (by omega))
          go_wp2_with fail
          go_roundw
          case rel => exact ⟨k + 1, r, by omega, by omega, rfl, by go_num, HS2, HB2⟩
          case measure => simp [intOf]; omega
      · obtain rfl : k = n := by omega
        have HS2 : Hid (SmallF fl) := Lib.hid ⟨by rw [← HN.out]; omega, by rw [← HN.out]; exact HS.out⟩
        go_wp2_with fail
        go_ret
        exact ⟨⟨_, rfl, .inr ⟨by omega, HS2.out⟩⟩, HB.out⟩

/-- the first k of the rows are these fills -/
def FirstF (fl : List pl.Pc) (cs : List Pr) (k : Nat) : Prop := ∀ i, i < k → nthC cs i = (.string (pl.nthQ fl i).1, .string (pl.nthQ fl i).2)
theorem FirstF.push {fl : List pl.Pc} {cs : List Pr} {k : Nat} {x y : ByteArray} (h : FirstF fl cs k) (hk : k < cs.length) (hx : (pl.nthQ fl k).1 = x) (hy : (pl.nthQ fl k).2 = y) : FirstF fl (cs.set k (.string x, .string y)) (k + 1) := by
  intro i hi
  by_cases e : i = k
  · subst e; rw [nthC_same hk, hx, hy]
  · rw [nthC_other (by omega) e]; exact h i (by omega)
theorem made_reads {B g : Nat} {w : World} {cs : List Pr} {fl : List pl.Pc} {n : Nat} (h : OPr 87 B w (.slice (some ⟨g, 0, none⟩) n n) n cs) (hn : n = fl.length) (hf : FirstF fl cs n) : RPc w (.slice (some ⟨g, 0, none⟩) n n) fl := by
  rcases Nat.eq_zero_or_pos n with h0 | h0
  · exact .inl ⟨List.length_eq_zero_iff.1 (by omega), _, _, by rw [h0]⟩
  · refine .inr ⟨by omega, g, 0, n, by rw [hn], (World.ownsRow.lt h g rfl).2, fun i hi => ?_⟩
    obtain ⟨h1, h2, _, _⟩ := pr_cells h (show i < n by omega)
    rw [hf i (by omega)] at h1 h2
    rw [Nat.zero_add]
    exact ⟨h1, h2⟩

set_option maxHeartbeats 4000000 in
theorem toFillS_any (fl : List pl.Pc) (v : Value) (w : World) (hr : RPc w v fl) (hl : fl.length ≤ 1048576) :
    Calls Try.prog 37 #[v] w fun e w' => ∃ v', e = .returned v' ∧ RPc w' v' fl ∧ Below w.heap.size w w' := by
  obtain ⟨i0, hi, hz0, hz1, hz2⟩ := info_parts infoFi
  have HR := Lib.hid hr
  obtain ⟨a0, c0, rfl⟩ := hr.slice
  obtain ⟨n, HN⟩ : ∃ n, Hid (n = fl.length) := ⟨_, Lib.hid rfl⟩
  rw [← HN.out] at HR hl ⊢
  clear hr
  go_enter Try.func37, Try.ntmps37
  go_wp2_with (at_make; refine wpList_make_full _ rfl _ _ 38 rfl w.heap.size 87 i0 (.agg #[.string ByteArray.empty, .string ByteArray.empty]) 2 Try.underlying38 hi hz0 hz1 _ _ _ _ n rfl rfl rfl rfl ?b1 ?b2 ?b3 ?_)
  case b1 => rw [hz2]; omega
  case b2 => unfold maxLen; omega
  case b3 => exact Nat.le_refl _
  intro w1 hown hgrow
  have hb0 : Below w.heap.size w w1 := (Below.refl _ _).grown hgrow (Nat.le_refl _) (fun g hg => by cases hg)
  have HO0 : Hid (OPr 87 w.heap.size w1 (.slice (some ⟨w.heap.size, 0, none⟩) n n) n (List.replicate n (.string ByteArray.empty, .string ByteArray.empty))) := Lib.hid (by
    show w1.ownsRow _ _ _ _ _ _
    rw [← made_pairs]; exact hown)
  have HB0 := Lib.hid hb0
  clear hown hgrow hb0
  go_wp2_with fail
  go_loopw [4] (fun iv wr => ∃ (k : Nat) (cs : List Pr), k ≤ n ∧ iv = .int .i64 k ∧ Hid (OPr 87 w.heap.size wr (.slice (some ⟨w.heap.size, 0, none⟩) n n) n cs) ∧ Hid (FirstF fl cs k) ∧ Hid (Below w.heap.size w wr)) (fun iv _ => n - (intOf iv).toNat)
  case atStart => exact ⟨0, _, Nat.zero_le _, rfl, HO0, Lib.hid (fun i h => absurd h (by omega)), HB0⟩
  case round =>
    obtain ⟨k, cs, hk, rfl, HO, HF, HB⟩ := hrel
    by_cases hlt : k < n
    · obtain ⟨b, o, rfl, hbw, c1, c2⟩ := HR.out.at HN.out HB.out hlt
      obtain ⟨nm, HNM⟩ : ∃ nm, Hid ((pl.nthQ fl k).1 = nm) := ⟨_, Lib.hid rfl⟩
      obtain ⟨pt, HPT⟩ : ∃ pt, Hid ((pl.nthQ fl k).2 = pt) := ⟨_, Lib.hid rfl⟩
      rw [HNM.out] at c1
      rw [HPT.out] at c2
      go_wp2_with fail
      refine (toFill_any nm pt _).mono ?_
      rintro e w2 ⟨rfl, hb2⟩
      have HO2 := Lib.hid (pr_below HO.out hb2)
      have HB2 := Lib.hid (HB.out.trans (hb2.mono HB.out.size))
      clear hb2 c1 c2
      obtain ⟨pc0, pc1, pf0, pf1⟩ := pr_cells HO2.out hlt
      obtain ⟨ps0, pg0, pc2, pf2⟩ := pr_store HO2.out hlt (.string nm) (.string pt)
      have HP0 := Lib.hid ps0
      have HF2 := Lib.hid (HF.out.push (by rw [pr_len HO.out]; exact hlt) HNM.out HPT.out)
      have HB3 := Lib.hid (HB2.out.trans (below_of_grown pg0 HB2.out.size (fun g hg => by cases hg; exact Nat.le_refl _)))
      clear ps0 pg0
      go_wp2_with fail
      go_roundw
      case rel => exact ⟨k + 1, _, by omega, by go_num, HP0, HF2, HB3⟩
      case measure => simp [intOf]; omega
    · obtain rfl : k = n := by omega
      have HE := Lib.hid (made_reads HO.out HN.out HF.out)
      go_wp2_with fail
      go_ret
      exact ⟨_, rfl, HE.out, HB.out⟩

set_option maxHeartbeats 4000000 in
theorem eqFillS_same (fl : List pl.Pc) (u v : Value) (w : World) (hu : RPc w u fl) (hv : RPc w v fl) (hl : fl.length ≤ 1048576) :
    Calls Try.prog 38 #[u, v] w fun e w' => e = .returned (.bool true) ∧ Below w.heap.size w w' := by
  have HU := Lib.hid hu
  have HV := Lib.hid hv
  obtain ⟨au, cu, rfl⟩ := hu.slice
  obtain ⟨av, cv, rfl⟩ := hv.slice
  obtain ⟨n, HN⟩ : ∃ n, Hid (n = fl.length) := ⟨_, Lib.hid rfl⟩
  rw [← HN.out] at HU HV hl ⊢
  clear hu hv
  go_enter Try.func38, Try.ntmps38
  have hbn : ((n : Int) != (n : Int)) = false := by simp
  go_wp2_with fail
  go_loopw [5] (fun iv wr => ∃ k : Nat, k ≤ n ∧ iv = .int .i64 k ∧ Hid (Below w.heap.size w wr)) (fun iv _ => n - (intOf iv).toNat)
  case atStart => exact ⟨0, Nat.zero_le _, rfl, Lib.hid (Below.refl _ _)⟩
  case round =>
    obtain ⟨k, hk, rfl, HB⟩ := hrel
    by_cases hlt : k < n
    · obtain ⟨b, o, rfl, hbw, c1, c2⟩ := HU.out.at HN.out HB.out hlt
      obtain ⟨b', o', rfl, hbw', d1, d2⟩ := HV.out.at HN.out HB.out hlt
      obtain ⟨nm, HNM⟩ : ∃ nm, Hid ((pl.nthQ fl k).1 = nm) := ⟨_, Lib.hid rfl⟩
      obtain ⟨pt, HPT⟩ : ∃ pt, Hid ((pl.nthQ fl k).2 = pt) := ⟨_, Lib.hid rfl⟩
      rw [HNM.out] at c1 d1
      rw [HPT.out] at c2 d2
      go_wp2_with fail
      go_region_with (go_at_call 75; refine (eqFill_any nm pt _).mono ?_; rintro e w2 ⟨rfl, hb2⟩; have HBQ := Lib.hid hb2; clear hb2)
      all_goals
        have hbw2 : Below wr.heap.size wr w2 := by first | exact HBQ.out | exact (Below.refl _ _).drew.trans HBQ.out | exact (Below.refl _ _).drew.drew.trans HBQ.out
        have HB2 := Lib.hid (HB.out.trans (hbw2.mono HB.out.size))
        clear hbw2 c1 c2 d1 d2
        go_wp2_with fail
        go_roundw
        case rel => exact ⟨k + 1, by omega, by go_num, HB2⟩
        case measure => simp [intOf]; omega
    · obtain rfl : k = n := by omega
      go_wp2_with fail
      go_ret
      exact ⟨rfl, HB.out⟩
end Go.Proofs.Ytadlelcckalcoaa
