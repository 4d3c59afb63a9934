/- Contracts: the model's common, CommonOf. -/
import Derived.Test.YtckfpneooknifaaTab
import Derived.Test.YtckfpneooknifaaLinesV
import Derived.Test.YtckfpneooknifaaEq
import Derived.BigQuiet
import Derived.Deep.Cut
import Derived.StillTailTactics
namespace Go.Proofs.Ytckfpneooknifaa
open Go.RowKit
set_option maxRecDepth 100000
set_option linter.unusedVariables false

/-- rows of zeros, each in a block of its own -/
structure InnI (D : Nat) (w : World) (j M : Nat) (gs : Nat → Nat) : Prop where
  each : ∀ i, i < j → OInts D w (.slice (some ⟨gs i, 0, none⟩) M M) M (List.replicate M 0)
  inj : ∀ i k, i < j → k < j → gs i = gs k → i = k
def rowV (M : Nat) (gs : Nat → Nat) (i : Nat) : Value := .slice (some ⟨gs i, 0, none⟩) M M
def rowsV (M : Nat) (gs : Nat → Nat) (j : Nat) : List Value := (List.range j).map (rowV M gs)
theorem rowsV_len (M : Nat) (gs : Nat → Nat) (j : Nat) : (rowsV M gs j).length = j := by simp [rowsV]
theorem InnI.lt {D j M : Nat} {w : World} {gs : Nat → Nat} (h : InnI D w j M gs) {i : Nat} (hi : i < j) : D ≤ gs i ∧ gs i < w.heap.size := World.ownsRow.lt (h.each i hi) (gs i) rfl
theorem InnI.keep {D j M : Nat} {w w' : World} {gs : Nat → Nat} (h : InnI D w j M gs) (hk : ∀ i, i < j → w'.heap[gs i]? = w.heap[gs i]?) : InnI D w' j M gs :=
  ⟨fun i hi => own_keep (h.each i hi) (fun k hk2 => by injection hk2 with e; subst e; exact hk i hi), h.inj⟩
theorem InnI.below {D j M : Nat} {w w' : World} {gs : Nat → Nat} (h : InnI D w j M gs) (hb : Below w.heap.size w w') : InnI D w' j M gs := h.keep fun i hi => hb.block _ (h.lt hi).2
def gsPut (gs : Nat → Nat) (j g : Nat) : Nat → Nat := fun i => if i = j then g else gs i
theorem gsPut_same (gs : Nat → Nat) (j g : Nat) : gsPut gs j g j = g := by simp [gsPut]
theorem gsPut_lt {gs : Nat → Nat} {j g i : Nat} (h : i < j) : gsPut gs j g i = gs i := by unfold gsPut; rw [if_neg (by omega)]
theorem InnI.push {D j M g : Nat} {w : World} {gs : Nat → Nat} (h : InnI D w j M gs) (hg : OInts D w (.slice (some ⟨g, 0, none⟩) M M) M (List.replicate M 0)) (hn : ∀ i, i < j → gs i ≠ g) : InnI D w (j + 1) M (gsPut gs j g) := by
  refine ⟨fun i hi => ?_, fun i k hi hk e => ?_⟩
  · by_cases e : i = j
    · subst e; rw [gsPut_same]; exact hg
    · rw [gsPut_lt (by omega)]; exact h.each i (by omega)
  · by_cases e1 : i = j
    · by_cases e2 : k = j
      · omega
      · subst e1
        rw [gsPut_same, gsPut_lt (by omega)] at e
        exact absurd e.symm (hn k (by omega))
    · by_cases e2 : k = j
      · subst e2
        rw [gsPut_same, gsPut_lt (by omega)] at e
        exact absurd e (hn i (by omega))
      · rw [gsPut_lt (by omega), gsPut_lt (by omega)] at e
        exact h.inj i k (by omega) (by omega) e
theorem rowsV_push (M : Nat) (gs : Nat → Nat) (j g : Nat) : rowsV M gs j ++ [.slice (some ⟨g, 0, none⟩) M M] = rowsV M (gsPut gs j g) (j + 1) := by
  unfold rowsV
  rw [List.range_succ, List.map_append, List.map_singleton]
  congr 1
  · apply List.map_congr_left
    intro i hi
    unfold rowV
    rw [gsPut_lt (List.mem_range.1 hi)]
  · unfold rowV; rw [gsPut_same]
def RdC1 (D n M : Nat) (w : World) (ov iv : Value) (wr : World) : Prop :=
  ∃ (j : Nat) (gs : Nat → Nat), j ≤ n ∧ iv = .int .i64 j ∧ Hid (wr.ownsRow D 43 1 ov j (rowsV M gs j)) ∧ Hid (InnI D wr j M gs) ∧ Hid (Below D w wr)
theorem tab_made {D n M : Nat} {w : World} {gs : Nat → Nat} {v : Value} (h : w.ownsRow D 43 1 v (n + 1) (rowsV M gs (n + 1))) (hi : InnI D w (n + 1) M gs) :
    ∃ g cap, v = .slice (some ⟨g, 0, none⟩) (n + 1) cap ∧ TabAt D w g (n + 1) M gs (fun _ _ => 0) := by
  have hw := h
  rcases h.2 with ⟨_, hn⟩ | ⟨g, cap, cur, hv, hB, hg, hle, hm, hs, htake⟩
  · omega
  · subst hv
    refine ⟨g, cap, rfl, ⟨⟨hB, (Array.getElem?_eq_some_iff.1 hg).1⟩, fun i hlt => ?_, fun i k hlt hk => ?_, hi.inj⟩⟩
    · refine ⟨?_, (hi.lt hlt).1, (hi.lt hlt).2, fun e => types_apart hw (hi.each i hlt) (by decide) g rfl (by rw [e]; rfl)⟩
      rw [World.ownsRow.cellAt hw i (by omega)]
      unfold rowsV
      rw [List.getElem?_map, List.getElem?_range hlt]; rfl
    · exact ⟨ints_cell (hi.each i hlt) hk (by rw [List.getElem?_replicate, if_pos hk]), World.ownsRow.frozenAt (hi.each i hlt) k⟩

def RdT (a b : List ByteArray) (D g N M : Nat) (gs : Nat → Nat) (w : World) (i k : Nat) (wr : World) : Prop :=
  ∃ f, Hid (TabAt D wr g N M gs f) ∧ Hid (pl.TabI a b f i k) ∧ Hid (Below D w wr)

/-- what the model's table is -/
def CommPost (a b : List ByteArray) (w : World) (e : Ending) (w' : World) : Prop :=
  ∃ g cap gs f, e = .returned (.slice (some ⟨g, 0, none⟩) (a.length + 1) cap) ∧ TabAt w.heap.size w' g (a.length + 1) (b.length + 1) gs f ∧ pl.TabI a b f 0 0 ∧ Below w.heap.size w w'

set_option maxHeartbeats 16000000 in
theorem scommon_any (a b : List ByteArray) (va vb : Value) (w : World) (ha : RStrs w va a) (hb : RStrs w vb b) (hla : a.length ≤ 20) (hlb : b.length ≤ 20) :
    Calls Try.prog 66 #[va, vb] w (CommPost a b w) := by
  obtain ⟨i0, hi, hz0, hz1, hz2⟩ := info_parts infoI
  obtain ⟨j0, hj, hy0, hy1, hy2⟩ := info_parts infoSI
  have HA := Lib.hid ha
  have HB := Lib.hid hb
  obtain ⟨aa, ca, rfl⟩ := ha.slice
  obtain ⟨ab, cb, rfl⟩ := hb.slice
  obtain ⟨n, HN⟩ : ∃ n, Hid (n = a.length) := ⟨_, Lib.hid rfl⟩
  obtain ⟨m, HM⟩ : ∃ m, Hid (m = b.length) := ⟨_, Lib.hid rfl⟩
  unfold CommPost
  rw [← HN.out] at HA hla ⊢
  rw [← HM.out] at HB hlb ⊢
  clear ha hb
  go_enter Try.func66, Try.ntmps66
  go_wp2_with fail
  have HO0 : Hid ((w.alloc (.cells #[] 43)).ownsRow w.heap.size 43 1 (.slice (some ⟨w.heap.size, 0, none⟩) 0 0) 0 (rowsV (m + 1) (fun _ => 0) 0)) := Lib.hid (World.ownsRow_made _ _ _ (Nat.le_refl _) (by unfold maxLen; omega) rfl)
  have HI0 : Hid (InnI w.heap.size (w.alloc (.cells #[] 43)) 0 (m + 1) (fun _ => 0)) := Lib.hid ⟨fun i h => absurd h (by omega), fun i k h => absurd h (by omega)⟩
  have HB0 : Hid (Below w.heap.size w (w.alloc (.cells #[] 43))) := Lib.hid ((Below.refl _ _).alloc (Nat.le_refl _) _)
  obtain ⟨w0, HW0⟩ : ∃ w0, Hid (w.alloc (.cells #[] 43) = w0) := ⟨_, Lib.hid rfl⟩
  rw [HW0.out] at HO0 HI0 HB0 ⊢
  obtain ⟨D, HD⟩ : ∃ D, Hid (w.heap.size = D) := ⟨_, Lib.hid rfl⟩
  rw [HD.out] at HO0 HI0 HB0 ⊢
  go_loopw [5, 6] (fun ov iv wr => RdC1 D (n + 1) (m + 1) w ov iv wr) (fun _ iv _ => n + 1 - (intOf iv).toNat)
  case atStart => exact ⟨0, _, Nat.zero_le _, rfl, HO0, HI0, HB0⟩
  case round =>
    obtain ⟨j, gs, hjn, rfl, HO, HI, HBl⟩ := hrel
    have hDw : D ≤ wr.heap.size := by have := HBl.out.size; rw [HD.out] at this; exact this
    by_cases hlt : j ≤ n
    · go_wp2_with (at_make; refine wpList_make_full _ rfl _ _ 43 rfl D 3 i0 (.int .i64 0) 1 Try.underlying43 hi hz0 hz1 _ _ _ _ (m + 1) (by first | rfl | (simp only [Int.natCast_add, Int.natCast_one])) rfl rfl rfl ?b1 ?b2 ?b3 ?_)
      case b1 => rw [hz2]; omega
      case b2 => unfold maxLen; omega
      case b3 => exact hDw
      intro w1 hown hgrow
      have hb1 : Below wr.heap.size wr w1 := (Below.refl _ _).grown hgrow (Nat.le_refl _) (fun g hg => by cases hg)
      have HN1 : Hid (OInts D w1 (.slice (some ⟨wr.heap.size, 0, none⟩) (m + 1) (m + 1)) (m + 1) (List.replicate (m + 1) 0)) := Lib.hid (by
        rw [toList_madeCells_one, ← List.map_replicate] at hown; exact hown)
      have HO1 : Hid (w1.ownsRow D 43 1 _ j (rowsV (m + 1) gs j)) := Lib.hid (own_keep HO.out (fun k hk => hb1.block k (World.ownsRow.lt HO.out k hk).2))
      have HI1 : Hid (InnI D w1 (j + 1) (m + 1) (gsPut gs j wr.heap.size)) := Lib.hid ((HI.out.below hb1).push HN1.out (fun i hi2 => by have := (HI.out.lt hi2).2; omega))
      have HB1 := Lib.hid (HBl.out.trans (hb1.mono hDw))
      have hD1 : D ≤ w1.heap.size := Nat.le_trans hDw hb1.size
      clear hown hgrow hb1
      obtain ⟨g1, HG1⟩ : ∃ g1, Hid (wr.heap.size = g1) := ⟨_, Lib.hid rfl⟩
      rw [HG1.out] at HI1 HN1 ⊢
      go_wp2_with (at_builtin; refine wpList_append_own _ rfl _ _ 74 rfl D 43 j0 (.slice none 0 0) 1 24 Try.underlying74 hj hy0 hy1 hy2 rfl (by decide) _ _ _ rfl (World.ownsRow.alloc HO1.out _) ⟨w1.heap.size, 0, none⟩ 1 1 [.slice (some ⟨g1, 0, none⟩) (m + 1) (m + 1)] rfl rfl (cell_one_new _ _ _) (by intro u hu; simp at hu; subst hu; rfl) (by unfold maxLen; omega) (by omega) (by simp; omega) ?_)
      intro v8 w8 hown8 hgrow8 _
      have hbA : Below w1.heap.size w1 (w1.alloc (.cells #[.slice (some ⟨g1, 0, none⟩) (m + 1) (m + 1)] 43)) := (Below.refl _ _).alloc (Nat.le_refl _) _
      have HO8 : Hid (w8.ownsRow D 43 1 v8 (j + 1) (rowsV (m + 1) (gsPut gs j g1) (j + 1))) := Lib.hid (by rw [← rowsV_push]; exact hown8)
      have HIA := HI1.out.below hbA
      have HI8 : Hid (InnI D w8 (j + 1) (m + 1) (gsPut gs j g1)) := Lib.hid (HIA.keep (fun i hi2 => hgrow8.block _ (HIA.lt hi2).2 (fun e => types_apart (World.ownsRow.alloc HO1.out _) (HIA.each i hi2) (by decide) _ e.symm rfl)))
      have HB8 := Lib.hid ((HB1.out.alloc hD1 _).grown hgrow8 (by simp; omega) (fun g hg => (World.ownsRow.lt HO1.out g hg).1))
      clear hown8 hgrow8 hbA HIA
      go_wp2
      go_roundw
      case rel => exact ⟨j + 1, _, by omega, by go_num, HO8, HI8, HB8⟩
      case measure => simp [intOf]; omega
    · obtain rfl : j = n + 1 := by omega
      obtain ⟨g, cap, rfl, hT⟩ := tab_made HO.out HI.out
      have HT := Lib.hid hT
      have HTI : Hid (pl.TabI a b (fun _ _ => 0) n 0) := Lib.hid (by rw [HN.out]; exact pl.tabI_start (fun _ _ _ _ => rfl))
      clear hT HO HI
      obtain ⟨P, HP⟩ : ∃ P : Int, Hid (((n + 1 : Nat) : Int) = P) := ⟨_, Lib.hid rfl⟩
      have hPn : ¬ P ≤ (n : Int) := by have := HP.out; omega
      rw [HP.out]
      obtain ⟨wt, HWT⟩ : ∃ wt, Hid (wr = wt) := ⟨_, Lib.hid rfl⟩
      rw [HWT.out] at HT HBl ⊢
      go_wp2_with fail
      go_loopw [7] (fun iv wr => ∃ j : Nat, j ≤ n ∧ iv = .int .i64 ((j : Int) - 1) ∧ RdT a b D g (n + 1) (m + 1) gs w j 0 wr) (fun iv _ => (intOf iv + 1).toNat)
      case atStart => exact ⟨n, Nat.le_refl _, rfl, ⟨_, HT, HTI, HBl⟩⟩
      case round =>
        obtain ⟨j, hjn, rfl, f, HTb, HTi, HBw⟩ := hrel
        by_cases hj0 : 0 < j
        · obtain ⟨i, rfl⟩ : ∃ i, j = i + 1 := ⟨j - 1, by omega⟩
          have HR0 := Lib.hid (pl.tabI_row HTi.out)
          rw [← HM.out] at HR0
          rw [show (((i + 1 : Nat) : Int) - 1) = (i : Int) from by omega]
          clear HTi
          go_wp2_with fail
          go_loopw [8] (fun kv wr => ∃ q : Nat, q ≤ m ∧ kv = .int .i64 ((q : Int) - 1) ∧ RdT a b D g (n + 1) (m + 1) gs w i q wr) (fun kv _ => (intOf kv + 1).toNat)
          case atStart => exact ⟨m, Nat.le_refl _, rfl, ⟨_, HTb, HR0, HBw⟩⟩
          case round =>
            obtain ⟨q, hqm, rfl, f, HTb, HTi, HBw⟩ := hrel
            by_cases hq0 : 0 < q
            · obtain ⟨k, rfl⟩ : ∃ k, q = k + 1 := ⟨q - 1, by omega⟩
              rw [show (((k + 1 : Nat) : Int) - 1) = (k : Int) from by omega]
              have hkm : k < m := by omega
              have hin : i < n := by omega
              obtain ⟨b1, o1, rfl, c1⟩ := HA.out.at HN.out (by rw [HD.out]; exact HBw.out) hin
              obtain ⟨b2, o2, rfl, c2⟩ := HB.out.at HM.out (by rw [HD.out]; exact HBw.out) hkm
              obtain ⟨x, HX⟩ : ∃ x, Hid (nth a i = x) := ⟨_, Lib.hid rfl⟩
              obtain ⟨y, HY⟩ : ∃ y, Hid (nth b k = y) := ⟨_, Lib.hid rfl⟩
              rw [HX.out] at c1
              rw [HY.out] at c2
              have hia : i < a.length := by rw [← HN.out]; exact hin
              have hkb : k < b.length := by rw [← HM.out]; exact hkm
              have HIA := Lib.hid hia
              have HKB := Lib.hid hkb
              clear hia hkb
              by_cases e : x = y
              · subst e
                have HTS := Lib.hid (pl.tab_same HIA.out HKB.out (HX.out.trans HY.out.symm))
                have hV := HTi.out (i + 1) (k + 1) (by have := HIA.out; omega) (by have := HKB.out; omega) (.inl (by omega))
                obtain ⟨V, HV⟩ : ∃ V, Hid (pl.tabC a b (i + 1) (k + 1) = V) := ⟨_, Lib.hid rfl⟩
                have hVb : V ≤ 20 := by rw [← HV.out]; have := pl.tab_le a b (i + 1) (k + 1); have := HN.out; omega
                rw [HV.out] at hV HTS
                go_wp2_with fail
                go_quiet (fail)
                have HTq := Lib.hid (HTb.out.below (below_drewN (n := nq)))
                have HBq := Lib.hid (HBw.out.trans (below_drewN (n := nq)))
                clear c1 c2
                obtain ⟨wq, HWQ⟩ : ∃ wq, Hid (wr.drewN nq = wq) := ⟨_, Lib.hid rfl⟩
                rw [HWQ.out] at HTq HBq ⊢
                have r0 : wq.drew.cell? ⟨g, i, none⟩ = some (.slice (some ⟨gs i, 0, none⟩) (m + 1) (m + 1)) := (HTq.out.rows i (by omega)).1
                have r1 : wq.drew.cell? ⟨g, i + 1, none⟩ = some (.slice (some ⟨gs (i + 1), 0, none⟩) (m + 1) (m + 1)) := (HTq.out.rows (i + 1) (by omega)).1
                have d0 : wq.drew.cell? ⟨gs i, k, none⟩ = some (.int .i64 (f i k)) := (HTq.out.cells i k (by omega) (by omega)).1
                have g0 : wq.drew.frozen? ⟨gs i, k, none⟩ = false := (HTq.out.cells i k (by omega) (by omega)).2
                have d1 : wq.drew.cell? ⟨gs (i + 1), k + 1, none⟩ = some (.int .i64 (V : Int)) := by rw [← hV]; exact (HTq.out.cells (i + 1) (k + 1) (by omega) (by omega)).1
                have hi1 : (i : Int) + 1 < (n : Int) + 1 := by omega
                have hi2 : (i : Int) < (n : Int) + 1 := by omega
                have hk1 : (k : Int) + 1 < (m : Int) + 1 := by omega
                have hk2 : (k : Int) < (m : Int) + 1 := by omega
                obtain ⟨G0, HG0⟩ : ∃ G0, Hid (gs i = G0) := ⟨_, Lib.hid rfl⟩
                obtain ⟨G1, HG1⟩ : ∃ G1, Hid (gs (i + 1) = G1) := ⟨_, Lib.hid rfl⟩
                have HTD : Hid (TabAt D wq.drew g (n + 1) (m + 1) gs f) := Lib.hid (HTq.out.below (Below.refl _ _).drew)
                have HBD : Hid (Below D w wq.drew) := Lib.hid HBq.out.drew
                have HSET := Lib.hid (HTD.out.set (i := i) (k := k) (by omega) (by omega) ((V : Int) + 1))
                have HKEEP := Lib.hid (HTD.out.keeps (i := i) (k := k) (by omega) HBD.out (.int .i64 ((V : Int) + 1)))
                have HPUT : Hid (pl.TabI a b (updT f i k ((V : Int) + 1)) i k) := Lib.hid (pl.tabI_put HTi.out HKB.out (by rw [HTS.out]; first | rfl | omega))
                rw [HG0.out] at HSET HKEEP
                rw [HG0.out] at r0 d0 g0
                rw [HG1.out] at r1 d1
                clear hV
                go_upto_region 13 with (fail)
                have s1 : IntKind.i64.wrap ((i : Int) + 1) = (i : Int) + 1 := by rw [IntKind.wrap_i64]; omega
                have s2 : IntKind.i64.wrap ((k : Int) + 1) = (k : Int) + 1 := by rw [IntKind.wrap_i64]; omega
                have s3 : IntKind.i64.wrap ((V : Int) + 1) = (V : Int) + 1 := by rw [IntKind.wrap_i64]; omega
                have s4 : 0 ≤ (i : Int) + 1 := by omega
                have s5 : 0 ≤ (k : Int) + 1 := by omega
                have s6 : ((i : Int) + 1).toNat = i + 1 := by omega
                have s7 : ((k : Int) + 1).toNat = k + 1 := by omega
                go_still_tail 16, (by kernel_rfl)
                clear s1 s2 s3 s4 s5 s6 s7
                change wpList _ _ _ _ _ wq.drew
                obtain ⟨wd, HWD⟩ : ∃ wd, Hid (wq.drew = wd) := ⟨_, Lib.hid rfl⟩
                rw [HWD.out] at HSET HKEEP d0 g0 ⊢
                go_wp2_with fail
                go_roundw
                case rel => exact ⟨k, by omega, by first | rfl | go_num, ⟨_, HSET, HPUT, HKEEP⟩⟩
                case measure => first | (simp [intOf]; done) | (simp [intOf]; omega)
              · have HTS := Lib.hid (pl.tab_else HIA.out HKB.out (by rw [HX.out, HY.out]; exact e))
                have hV := HTi.out (i + 1) k (by have := HIA.out; omega) (by have := HKB.out; omega) (.inl (by omega))
                have hU := HTi.out i (k + 1) (by have := HIA.out; omega) (by have := HKB.out; omega) (.inr (.inl ⟨rfl, by omega⟩))
                obtain ⟨V, HV⟩ : ∃ V, Hid (pl.tabC a b (i + 1) k = V) := ⟨_, Lib.hid rfl⟩
                obtain ⟨U, HU⟩ : ∃ U, Hid (pl.tabC a b i (k + 1) = U) := ⟨_, Lib.hid rfl⟩
                have hVb : V ≤ 20 := by rw [← HV.out]; have := pl.tab_le a b (i + 1) k; have := HN.out; omega
                have hUb : U ≤ 20 := by rw [← HU.out]; have := pl.tab_le a b i (k + 1); have := HN.out; omega
                rw [HV.out] at hV HTS
                rw [HU.out] at hU HTS
                have hne := toList_ne e
                clear e
                go_wp2_with fail
                go_quiet (fail)
                have HTq := Lib.hid (HTb.out.below (below_drewN (n := nq)))
                have HBq := Lib.hid (HBw.out.trans (below_drewN (n := nq)))
                clear c1 c2
                obtain ⟨wq, HWQ⟩ : ∃ wq, Hid (wr.drewN nq = wq) := ⟨_, Lib.hid rfl⟩
                rw [HWQ.out] at HTq HBq ⊢
                have r0 : wq.drew.cell? ⟨g, i, none⟩ = some (.slice (some ⟨gs i, 0, none⟩) (m + 1) (m + 1)) := (HTq.out.rows i (by omega)).1
                have r1 : wq.drew.cell? ⟨g, i + 1, none⟩ = some (.slice (some ⟨gs (i + 1), 0, none⟩) (m + 1) (m + 1)) := (HTq.out.rows (i + 1) (by omega)).1
                have d0 : wq.drew.cell? ⟨gs i, k, none⟩ = some (.int .i64 (f i k)) := (HTq.out.cells i k (by omega) (by omega)).1
                have g0 : wq.drew.frozen? ⟨gs i, k, none⟩ = false := (HTq.out.cells i k (by omega) (by omega)).2
                have d1 : wq.drew.cell? ⟨gs (i + 1), k, none⟩ = some (.int .i64 (V : Int)) := by rw [← hV]; exact (HTq.out.cells (i + 1) k (by omega) (by omega)).1
                have d2 : wq.drew.cell? ⟨gs i, k + 1, none⟩ = some (.int .i64 (U : Int)) := by rw [← hU]; exact (HTq.out.cells i (k + 1) (by omega) (by omega)).1
                have hi1 : (i : Int) + 1 < (n : Int) + 1 := by omega
                have hi2 : (i : Int) < (n : Int) + 1 := by omega
                have hk1 : (k : Int) + 1 < (m : Int) + 1 := by omega
                have hk2 : (k : Int) < (m : Int) + 1 := by omega
                obtain ⟨G0, HG0⟩ : ∃ G0, Hid (gs i = G0) := ⟨_, Lib.hid rfl⟩
                obtain ⟨G1, HG1⟩ : ∃ G1, Hid (gs (i + 1) = G1) := ⟨_, Lib.hid rfl⟩
                have HTD : Hid (TabAt D wq.drew g (n + 1) (m + 1) gs f) := Lib.hid (HTq.out.below (Below.refl _ _).drew)
                have HBD : Hid (Below D w wq.drew) := Lib.hid HBq.out.drew
                have HSET := Lib.hid (HTD.out.set (i := i) (k := k) (by omega) (by omega) (max (V : Int) (U : Int)))
                have HKEEP := Lib.hid (HTD.out.keeps (i := i) (k := k) (by omega) HBD.out (.int .i64 (max (V : Int) (U : Int))))
                have HPUT : Hid (pl.TabI a b (updT f i k (max (V : Int) (U : Int))) i k) := Lib.hid (pl.tabI_put HTi.out HKB.out (by rw [HTS.out]; first | rfl | omega))
                rw [HG0.out] at HSET HKEEP
                rw [HG0.out] at r0 d0 g0 d2
                rw [HG1.out] at r1 d1
                clear hV hU
                go_upto_region 14 with (fail)
                have s1 : IntKind.i64.wrap ((i : Int) + 1) = (i : Int) + 1 := by rw [IntKind.wrap_i64]; omega
                have s2 : IntKind.i64.wrap ((k : Int) + 1) = (k : Int) + 1 := by rw [IntKind.wrap_i64]; omega
                have s3 : IntKind.i64.wrap ((V : Int) + 1) = (V : Int) + 1 := by rw [IntKind.wrap_i64]; omega
                have s4 : 0 ≤ (i : Int) + 1 := by omega
                have s5 : 0 ≤ (k : Int) + 1 := by omega
                have s6 : ((i : Int) + 1).toNat = i + 1 := by omega
                have s7 : ((k : Int) + 1).toNat = k + 1 := by omega
                go_still_tail 23, (by kernel_rfl)
                clear s1 s2 s3 s4 s5 s6 s7
                change wpList _ _ _ _ _ wq.drew
                obtain ⟨wd, HWD⟩ : ∃ wd, Hid (wq.drew = wd) := ⟨_, Lib.hid rfl⟩
                rw [HWD.out] at HSET HKEEP d0 g0 ⊢
                go_wp2_with fail
                go_roundw
                case rel => exact ⟨k, by omega, by first | rfl | go_num, ⟨_, HSET, HPUT, HKEEP⟩⟩
                case measure => first | (simp [intOf]; done) | (simp [intOf]; omega)
            · obtain rfl : q = 0 := by omega
              go_wp2_with fail
              go_roundw
              case rel => exact ⟨i, by omega, by first | rfl | go_num, ⟨_, HTb, HTi, HBw⟩⟩
              case measure => simp [intOf]
        · obtain rfl : j = 0 := by omega
          go_wp2_with fail
          go_ret
          exact ⟨g, cap, gs, f, rfl, by rw [HD.out]; exact HTb.out, HTi.out, by rw [HD.out]; exact HBw.out⟩
end Go.Proofs.Ytckfpneooknifaa
