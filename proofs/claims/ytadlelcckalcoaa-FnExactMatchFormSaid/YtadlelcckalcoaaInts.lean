/- Slices of numbers: such as a call made, such as can be read; the laws' eqIntS, equalInts, markIntS, heldIntS, toIntS. -/
import Derived.Test.YtadlelcckalcoaaIntsO
import Derived.Test.YtadlelcckalcoaaMark
import Derived.Test.YtadlelcckalcoaaEq
import Derived.Test.YtadlelcckalcoaaDraw2
namespace Go.Proofs.Ytadlelcckalcoaa
open Go.RowKit
set_option maxRecDepth 100000

/-- number i of a list -/
def nthI (l : List Int) (i : Nat) : Int := l.getD i 0
theorem nthI_eq {l : List Int} {i : Nat} (h : i < l.length) : nthI l i = l[i] := by simp [nthI, h]
theorem nthI_ext {a b : List Int} (hl : a.length = b.length) (h : ∀ i, i < a.length → nthI a i = nthI b i) : a = b := by
  apply List.ext_getElem hl
  intro i h1 h2
  rw [← nthI_eq h1, ← nthI_eq h2]
  exact h i h1
theorem nthI_set_same {l : List Int} {j : Nat} {x : Int} (h : j < l.length) : nthI (l.set j x) j = x := by
  rw [nthI_eq (by simpa using h)]; simp
theorem nthI_set_other {l : List Int} {j t : Nat} {x : Int} (h : t < l.length) (hne : t ≠ j) : nthI (l.set j x) t = nthI l t := by
  rw [nthI_eq (by simpa using h), nthI_eq h, List.getElem_set_ne (fun e => hne e.symm)]
/-- v is a slice of numbers that reads as l -/
def RInts (w : World) (v : Value) (l : List Int) : Prop :=
  (l = [] ∧ ∃ a cap, v = .slice a 0 cap) ∨ (0 < l.length ∧ ∃ b off cap, v = .slice (some ⟨b, off, none⟩) l.length cap ∧ b < w.heap.size ∧ ∀ i, i < l.length → w.cell? ⟨b, off + i, none⟩ = some (.int .i64 (nthI l i)))
theorem ints_reads {B n : Nat} {w : World} {v : Value} {l : List Int} (h : OInts B w v n l) (hn : n = l.length) : RInts w v l := by
  subst hn
  have hw := h
  rcases h.2 with ⟨hv, hn⟩ | ⟨g, cap, cur, hv, hB, hg, hle, hm, hs, htake⟩
  · exact .inl ⟨List.length_eq_zero_iff.1 hn, none, 0, hv⟩
  · by_cases h0 : l.length = 0
    · exact .inl ⟨List.length_eq_zero_iff.1 h0, _, cap, by rw [hv, h0]⟩
    · refine .inr ⟨by omega, g, 0, cap, hv, (Array.getElem?_eq_some_iff.1 hg).1, fun i hi => ?_⟩
      subst hv
      have := World.ownsRow.cellAt hw i (by omega)
      rw [Nat.zero_add, this, nthI_eq hi, List.getElem?_map, List.getElem?_eq_getElem hi]
      rfl
theorem RInts.below {C : Nat} {w w' : World} {v : Value} {l : List Int} (h : RInts w v l) (hC : w.heap.size ≤ C) (hb : Below C w w') : RInts w' v l := by
  rcases h with h | ⟨hp, b, off, cap, hv, hlt, hc⟩
  · exact .inl h
  · exact .inr ⟨hp, b, off, cap, hv, Nat.lt_of_lt_of_le hlt hb.size, fun i hi => by rw [hb.cell (by show b < C; omega)]; exact hc i hi⟩
theorem RInts.slice {w : World} {v : Value} {l : List Int} (h : RInts w v l) : ∃ a cap, v = .slice a l.length cap := by
  rcases h with ⟨hl, a, cap, hv⟩ | ⟨_, b, off, cap, hv, _⟩
  · exact ⟨a, cap, by rw [hv, hl]; rfl⟩
  · exact ⟨_, cap, hv⟩
theorem RInts.at {w wr : World} {a : Option Addr} {cap n : Nat} {l : List Int} (h : RInts w (.slice a n cap) l) (hn : n = l.length) (hb : Below w.heap.size w wr) {k : Nat} (hk : k < n) :
    ∃ b o, a = some ⟨b, o, none⟩ ∧ b < w.heap.size ∧ wr.cell? ⟨b, o + k, none⟩ = some (.int .i64 (nthI l k)) := by
  rcases h with ⟨hz, _⟩ | ⟨hpos, b1, o1, c1, hvv, hb1, hc1⟩
  · rw [hz] at hn; simp at hn; omega
  · simp only [Value.slice.injEq] at hvv
    obtain ⟨rfl, _, rfl⟩ := hvv
    exact ⟨b1, o1, rfl, hb1, (hb.cell (p := ⟨b1, o1 + k, none⟩) hb1).trans (hc1 k (by omega))⟩
/-- numbers that came in -/
theorem IsRow.ints {w : World} {a : Option Addr} {len cap : Nat} {zs : List Int} (h : IsRow .i64 w a len cap zs) : ∃ l, RInts w (.slice a len cap) l ∧ l.length = len ∧ ∀ x ∈ l, (Lit.int .i64 x).wf = true := by
  rcases h with ⟨rfl, rfl, rfl, rfl⟩ | ⟨x, rfl, hl, hm, hz, hc, hw⟩
  · exact ⟨[], .inl ⟨rfl, _, _, rfl⟩, rfl, fun x h => by simp at h⟩
  · have hlen : (zs.take len).length = len := by rw [List.length_take]; omega
    refine ⟨zs.take len, ?_, hlen, fun x hx => hw x (List.mem_of_mem_take hx)⟩
    by_cases h0 : len = 0
    · subst h0; exact .inl ⟨rfl, _, _, rfl⟩
    · obtain ⟨b, off, spot⟩ := x
      have hc0 := hc 0 (by omega)
      have hspot : spot = none := by simpa [Addr.add] using World.cell?_spot hc0
      subst hspot
      have hadd : ∀ i, (⟨b, off, none⟩ : Addr).add i = ⟨b, off + i, none⟩ := fun i => by unfold Addr.add; split <;> simp_all
      refine .inr ⟨by omega, b, off, cap, by rw [hlen], ?_, fun i hi => ?_⟩
      · have := World.block_lt_of_cell? w _ hc0
        rw [hadd] at this; exact this
      · rw [hlen] at hi
        have e : nthI (zs.take len) i = zs.getD i 0 := by
          rw [nthI_eq (by omega), List.getElem_take]; simp [List.getD, show i < zs.length from by omega]
        rw [← hadd, e]; exact hc i (by omega)

set_option maxHeartbeats 1000000 in
theorem eqIntS_same (l : List Int) (va vb : Value) (w : World) (hA : RInts w va l) (hB : RInts w vb l) (hl : l.length ≤ 2000000) :
    Calls Try.prog 28 #[va, vb] w fun e w' => e = .returned (.bool true) ∧ Below w.heap.size w w' := by
  obtain ⟨n, hn⟩ : ∃ n, n = l.length := ⟨_, rfl⟩
  have HN := Lib.hid hn
  have RA := Lib.hid hA
  have RB := Lib.hid hB
  obtain ⟨a0, cap0, rfl⟩ := hA.slice
  obtain ⟨a1, cap1, rfl⟩ := hB.slice
  rw [← hn] at hl RA RB ⊢
  clear hn hA hB
  go_enter Try.func28, Try.ntmps28
  go_wp2_with fail
  go_loopw [5] (fun iv wr => ∃ k : Nat, k ≤ n ∧ iv = .int .i64 k ∧ Below w.heap.size w wr) (fun iv _ => n - (intOf iv).toNat)
  case atStart => exact ⟨0, Nat.zero_le _, rfl, Below.refl _ _⟩
  case round =>
    obtain ⟨k, hk, rfl, hbel⟩ := hrel
    have HB := Lib.hid hbel
    by_cases hlt : k < n
    · obtain ⟨b1, o1, rfl, hl1, hc1⟩ := RA.out.at HN.out hbel hlt
      obtain ⟨b2, o2, rfl, hl2, hc2⟩ := RB.out.at HN.out hbel hlt
      obtain ⟨x, HX⟩ : ∃ x, Hid (nthI l k = x) := ⟨_, Lib.hid rfl⟩
      rw [HX.out] at hc1 hc2
      have hne : (x != x) = false := by simp
      clear hbel
      go_wp2_with fail
      go_quiet (fail)
      have HB2 := Lib.hid (HB.out.trans (below_drewN (B := w.heap.size) (n := nq) (w := wr)))
      go_wp2_with fail
      go_roundw
      case rel => exact ⟨k + 1, by omega, by go_num, HB2.out⟩
      case measure => simp [intOf]; omega
    · obtain rfl : k = n := by omega
      clear hbel
      go_wp2_with fail
      go_ret
      exact ⟨rfl, HB.out⟩

/-- n numbers from k on -/
def marksI (k n : Nat) : List Int := (List.range n).map fun i => ((k + i : Nat) : Int)
theorem marksI_len (k n : Nat) : (marksI k n).length = n := by simp [marksI]
theorem marksI_nth {k n i : Nat} (h : i < n) : nthI (marksI k n) i = ((k + i : Nat) : Int) := by
  rw [nthI_eq (by rw [marksI_len]; exact h)]; simp [marksI]
def IInv (k n j : Nat) (l : List Int) : Prop := l.length = n ∧ ∀ t, t < j → t < n → nthI l t = ((k + t : Nat) : Int)
theorem iinv_start {k n : Nat} {l : List Int} (h : l.length = n) : IInv k n 0 l := ⟨h, fun t ht => absurd ht (by omega)⟩
theorem iinv_step {k n j : Nat} {l : List Int} (h : IInv k n j l) (hj : j < n) : IInv k n (j + 1) (l.set j ((k + j : Nat) : Int)) := by
  refine ⟨by rw [List.length_set]; exact h.1, fun t ht hn => ?_⟩
  by_cases e : t = j
  · subst e; exact nthI_set_same (by rw [h.1]; exact hj)
  · rw [nthI_set_other (by rw [h.1]; exact hn) e]; exact h.2 t (by omega) hn
theorem iinv_done {k n : Nat} {l : List Int} (h : IInv k n n l) : l = marksI k n := by
  apply nthI_ext (by rw [h.1, marksI_len])
  intro i hi
  rw [h.1] at hi
  rw [marksI_nth hi, h.2 i hi hi]
theorem ints_at {B g n cap j : Nat} {w : World} {zs : List Int} (h : OInts B w (.slice (some ⟨g, 0, none⟩) n cap) n zs) (hl : zs.length = n) (hj : j < n) : w.cell? ⟨g, j, none⟩ = some (.int .i64 (nthI zs j)) :=
  ints_cell h hj (by rw [List.getElem?_eq_getElem (by omega), nthI_eq (by omega)])

set_option maxHeartbeats 1000000 in
theorem markIntS_any (B k : Nat) (v : Value) (l : List Int) (w : World) (hown : OInts B w v l.length l) (hk : 0 < k) (hk2 : k + l.length < 100000000) :
    Calls Try.prog 30 #[v, .int .i64 k] w fun e w' => e = .returned (.int .i64 ((k + l.length : Nat) : Int)) ∧ OInts B w' v l.length (marksI k l.length) ∧ w.grownBy w' v.ownBlock := by
  have hown0 := hown
  rcases hown.2 with ⟨rfl, hn⟩ | ⟨g, cap, cur, rfl, hB, hg, hle, hm, hs, htake⟩
  · have hlen : l = [] := List.length_eq_zero_iff.1 hn
    subst hlen
    clear hown hown0
    go_enter Try.func30, Try.ntmps30
    go_wp2
    refine wp_loop_rounds 1 ?_
    rw [rounds_succ]
    go_wp2
    go_ret
    exact ⟨rfl, World.ownsRow_nil _ _ _ _, grown_refl⟩
  · obtain ⟨n, hn⟩ : ∃ n, n = l.length := ⟨_, rfl⟩
    have hown1 : OInts B w (.slice (some ⟨g, 0, none⟩) n cap) n l := by rw [hn]; exact hown
    have HL := Lib.hid hn
    have hst := Lib.hid (iinv_start (k := k) hn.symm)
    have hnm : n ≤ cap ∧ cap ≤ maxLen := ⟨by rw [hn]; exact hle, hm⟩
    rw [← hn] at hk2 ⊢
    clear hown hown0 htake hg hs hn hle hm
    go_enter Try.func30, Try.ntmps30
    go_wp2
    go_loopw [1, 5] (fun kv i wr => ∃ (j : Nat) (l' : List Int), j ≤ n ∧ kv = .int .i64 ((k + j : Nat) : Int) ∧ i = .int .i64 j ∧ Hid (IInv k n j l') ∧ Hid (OInts B wr (.slice (some ⟨g, 0, none⟩) n cap) n l') ∧ w.grownBy wr (some g))
      (fun _ i _ => n - (intOf i).toNat)
    case atStart => exact ⟨0, l, Nat.zero_le _, rfl, rfl, hst, Lib.hid hown1, grown_refl⟩
    case round =>
      obtain ⟨j, l', hj, rfl, rfl, hinv, hown, hgr⟩ := hrel
      have HG := Lib.hid hgr
      clear hgr
      by_cases hlt : j < n
      · have hn := Lib.hid (iinv_step hinv.out hlt)
        have hc2 := ints_at hown.out hinv.out.1 hlt
        have hf2 := World.ownsRow.frozenAt hown.out j
        have HO3 := Lib.hid (ints_store (j := j) hown.out ((k + j : Nat) : Int))
        obtain ⟨K, HK⟩ : ∃ K, Hid (k + j = K) := ⟨_, Lib.hid rfl⟩
        have HKB : K < 100000000 := by rw [← HK.out]; omega
        rw [HK.out] at hn HO3 ⊢
        have HG3 := Lib.hid (grown_tr HG.out (grown_store (g := g) wr j (.int .i64 (K : Int))))
        go_wp2_with fail
        go_roundw
        case rel => exact ⟨j + 1, _, by omega, by rw [← Nat.add_assoc, HK.out]; go_num, by go_num, hn, HO3, HG3.out⟩
        case measure => simp [intOf]; omega
      · obtain rfl : j = n := by omega
        have hn := Lib.hid (iinv_done hinv.out)
        go_wp2_with fail
        go_ret
        exact ⟨rfl, by rw [← hn.out]; exact hown.out, HG.out⟩

set_option maxHeartbeats 1000000 in
theorem toIntS_any (l : List Int) (v : Value) (w : World) (hr : RInts w v l) (hlen : l.length ≤ 1048576) :
    Calls Try.prog 25 #[v] w fun e w' => ∃ v', e = .returned v' ∧ OInts w.heap.size w' v' l.length l ∧ Below w.heap.size w w' := by
  obtain ⟨i0, hi, hz0, hz1, hz2⟩ := info_parts infoI
  obtain ⟨n, hn⟩ : ∃ n, n = l.length := ⟨_, rfl⟩
  have HN := Lib.hid hn
  have hrr := Lib.hid hr
  obtain ⟨a0, cap0, rfl⟩ := hr.slice
  rw [← hn] at hlen ⊢
  rw [← hn] at hrr
  clear hn hr
  go_enter Try.func25, Try.ntmps25
  go_wp2_with (at_make; refine wpList_make_full _ rfl _ _ 24 rfl w.heap.size 3 i0 (.int .i64 0) 1 Try.underlying24 hi hz0 hz1 _ _ _ _ n rfl rfl rfl rfl ?b1 ?b2 ?b3 ?_)
  case b1 => rw [hz2]; omega
  case b2 => unfold maxLen; omega
  case b3 => exact Nat.le_refl _
  intro w1 hown hgrow
  have hb0 : Below w.heap.size w w1 := (Below.refl _ _).grown hgrow (Nat.le_refl _) (fun g hg => by cases hg)
  have hown1 : OInts w.heap.size w1 (.slice (some ⟨w.heap.size, 0, none⟩) n n) n (List.replicate n 0) := by
    rw [toList_madeCells_one, ← List.map_replicate] at hown; exact hown
  have HO1 := Lib.hid hown1
  clear hown hgrow hown1
  go_wp2_with fail
  go_loopw [4] (fun iv wr => ∃ (k : Nat) (l' : List Int), k ≤ n ∧ iv = .int .i64 k ∧ Hid (l'.length = n ∧ ∀ i, i < k → nthI l' i = nthI l i) ∧ Hid (OInts w.heap.size wr (.slice (some ⟨w.heap.size, 0, none⟩) n n) n l') ∧ Below w.heap.size w wr) (fun iv _ => n - (intOf iv).toNat)
  case atStart => exact ⟨0, _, Nat.zero_le _, rfl, Lib.hid ⟨List.length_replicate, fun i h => absurd h (by omega)⟩, HO1, hb0⟩
  case round =>
    obtain ⟨k, l', hk, rfl, hinv, hown, hbel⟩ := hrel
    have HB := Lib.hid hbel
    clear hbel
    by_cases hlt : k < n
    · obtain ⟨b1, o1, rfl, hb1, hx⟩ := hrr.out.at HN.out HB.out hlt
      obtain ⟨x, HX⟩ : ∃ x, Hid (nthI l k = x) := ⟨_, Lib.hid rfl⟩
      rw [HX.out] at hx
      have hc2 := ints_at hown.out hinv.out.1 hlt
      have hf2 := World.ownsRow.frozenAt hown.out k
      have HO := Lib.hid (ints_store (j := k) hown.out x)
      have hb3 := Lib.hid (HB.out.setCell (p := ⟨w.heap.size, k, none⟩) (Nat.le_refl _) (.int .i64 x))
      have hn2 : Hid ((l'.set k x).length = n ∧ ∀ i, i < k + 1 → nthI (l'.set k x) i = nthI l i) := Lib.hid ⟨by rw [List.length_set]; exact hinv.out.1, fun i hi => by
        by_cases e : i = k
        · subst e; rw [nthI_set_same (by rw [hinv.out.1]; exact hlt), HX.out]
        · rw [nthI_set_other (by rw [hinv.out.1]; omega) e]; exact hinv.out.2 i (by omega)⟩
      go_wp2_with fail
      go_roundw
      case rel => exact ⟨k + 1, _, by omega, by go_num, hn2, HO, hb3.out⟩
      case measure => simp [intOf]; omega
    · obtain rfl : k = n := by omega
      have he : Hid (l' = l) := Lib.hid (nthI_ext (by rw [hinv.out.1]; exact HN.out) (fun i hi => hinv.out.2 i (by rw [← hinv.out.1]; exact hi)))
      go_wp2_with fail
      go_ret
      exact ⟨_, rfl, by rw [← he.out]; exact hown.out, HB.out⟩
end Go.Proofs.Ytadlelcckalcoaa
