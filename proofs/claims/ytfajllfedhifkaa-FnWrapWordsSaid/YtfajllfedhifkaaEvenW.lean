/- Contract: the program's EvenWrap. -/
import Derived.Test.YtfajllfedhifkaaRange
import Derived.Test.YtfajllfedhifkaaWays
import Derived.Test.YtfajllfedhifkaaFuller
import Derived.Test.YtfajllfedhifkaaPlainD
namespace Go.Proofs.Ytfajllfedhifkaa
open Go.RowKit
set_option maxRecDepth 100000
attribute [local go_sem] Oper.semAt_some

namespace pl
noncomputable def evenG (wd : Int) (l : List ByteArray) : Gs := Classical.epsilon (fun e => Best wd l e)
noncomputable def evenR (l : List ByteArray) (wd : Int) : List ByteArray := if fitA l wd = true then (evenG wd l).map jline else []
theorem evenG_eq {wd : Int} {l : List ByteArray} {e : Gs} (h : Best wd l e) : evenG wd l = e := best_unique (Classical.epsilon_spec (p := fun e => Best wd l e) ⟨e, h⟩) h
theorem evenR_yes {wd : Int} {l : List ByteArray} {e : Gs} (hf : fitA l wd = true) (h : Best wd l e) : evenR l wd = e.map jline := by unfold evenR; rw [if_pos hf, evenG_eq h]
theorem evenR_no {wd : Int} {l : List ByteArray} (hf : fitA l wd = false) : evenR l wd = [] := by unfold evenR; rw [if_neg (by rw [hf]; simp)]
end pl

theorem ORows.setCell {B : Nat} {w : World} {v : Value} {rs : List Tr} (h : ORows B w v rs) (p : Addr) (u : Value) (hp : p.block < B) : ORows B (w.setCell p u) v rs := by
  refine ⟨h.1, ?_⟩
  rcases h.2 with hn | ⟨g, cap, cur, hv, hBg, hg, rest⟩
  · exact .inl hn
  · refine .inr ⟨g, cap, cur, hv, hBg, ?_, rest⟩
    rw [Below.heap_setCell w p u g (by omega)]
    exact hg

theorem OStrs.putObj {B : Nat} {w : World} {v : Value} {l : List ByteArray} (h : OStrs B w v l) (k : Nat) (o : Obj) (hk : k < B) : OStrs B (w.putObj k o) v l := by
  refine ⟨h.1, ?_⟩
  rcases h.2 with hn | ⟨g, cap, cur, hv, hBg, hg, rest⟩
  · exact .inl hn
  · refine .inr ⟨g, cap, cur, hv, hBg, ?_, rest⟩
    rw [World.putObj_heap_other (by omega)]
    exact hg

/-- what the program holds while it looks for the best way -/
structure EvS (w : World) (G N : Nat) (a0 : Option Addr) (cap0 : Nat) (l : List ByteArray) (wd : Int) (best : pl.Gs) (least : Int) (bv : Value) (W : World) : Prop where
  lo : w.heap.size < G
  lb : N = 0 ∨ ∃ b o, a0 = some ⟨b, o, none⟩ ∧ b < w.heap.size
  hN : N = l.length
  c0 : W.heap[w.heap.size]? = some (.cells #[.int .i64 wd] 3 (0, 0))
  c1 : W.heap[G]? = some (.cells #[bv] 46 (0, 0))
  c2 : W.heap[G + 1]? = some (.cells #[.int .i64 least] 3 (0, 0))
  c3 : W.cell? ⟨G + 1 + 1, 0, none⟩ = some (.slice a0 N cap0)
  c4 : W.cell? ⟨G + 1 + 1 + 1, 0, none⟩ = some (.int .i64 wd)
  rd : RStrs W (.slice a0 N cap0) l
  rows : ORows (G + 6) W bv (rowsG 0 best)
  bel : Below w.heap.size w W

theorem EvS.apart {w : World} {G N : Nat} {a0 : Option Addr} {cap0 : Nat} {l : List ByteArray} {wd : Int} {best : pl.Gs} {least : Int} {bv : Value} {W W' : World} (h : EvS w G N a0 cap0 l wd best least bv W) (hap : Apart (G + 4) W W') : EvS w G N a0 cap0 l wd best least bv W' := by
  obtain ⟨h0, hlb, hN, c0, c1, c2, c3, c4, rd, rows, bel⟩ := h
  have bk : ∀ k o, W.heap[k]? = some o → k < G + 4 → W'.heap[k]? = some o := fun k o hk hl => by
    rw [hap.block k (Array.getElem?_eq_some_iff.1 hk).1 (by omega) (by omega)]; exact hk
  refine ⟨h0, hlb, hN, bk _ _ c0 (by omega), bk _ _ c1 (by omega), bk _ _ c2 (by omega), hap.cell c3 (by show G + 1 + 1 ≠ _; omega) (by show G + 1 + 1 ≠ _; omega), hap.cell c4 (by show G + 1 + 1 + 1 ≠ _; omega) (by show G + 1 + 1 + 1 ≠ _; omega), ?_, hap.orows rows (by omega), hap.below bel (by omega) rfl⟩
  rcases hlb with hz | ⟨b, o, rfl, hb⟩
  · left
    have : l = [] := List.length_eq_zero_iff.1 (by rw [← hN]; exact hz)
    exact ⟨this, _, _, by rw [hz]⟩
  · exact hap.rstrs rd (fun b' o' n c hv => by
      simp only [Value.slice.injEq, Option.some.injEq, Addr.mk.injEq, and_true] at hv
      omega)

theorem EvS.take {w : World} {G N : Nat} {a0 : Option Addr} {cap0 : Nat} {l : List ByteArray} {wd : Int} {best : pl.Gs} {least : Int} {bv : Value} {W : World} (h : EvS w G N a0 cap0 l wd best least bv W) (b2 : pl.Gs) (C : Int) (x : Value) (hx : ORows (G + 6) W x (rowsG 0 b2)) :
    EvS w G N a0 cap0 l wd b2 C x ((W.setCell ⟨G, 0, none⟩ x).setCell ⟨G + 1, 0, none⟩ (.int .i64 C)) := by
  obtain ⟨h0, hlb, hN, c0, c1, c2, c3, c4, rd, rows, bel⟩ := h
  have bk : ∀ k, k ≠ G → k ≠ G + 1 → ((W.setCell ⟨G, 0, none⟩ x).setCell ⟨G + 1, 0, none⟩ (.int .i64 C)).heap[k]? = W.heap[k]? := fun k h1 h2 =>
    (Below.heap_setCell _ ⟨G + 1, 0, none⟩ _ k h2).trans (Below.heap_setCell W ⟨G, 0, none⟩ _ k h1)
  refine ⟨h0, hlb, hN, (bk _ (by omega) (by omega)).trans c0, ?_, ?_, (World.cell?_of_block (bk _ (by show G + 1 + 1 ≠ G; omega) (by show G + 1 + 1 ≠ G + 1; omega))).trans c3, (World.cell?_of_block (bk _ (by show G + 1 + 1 + 1 ≠ G; omega) (by show G + 1 + 1 + 1 ≠ G + 1; omega))).trans c4, ?_, (hx.setCell ⟨G, 0, none⟩ _ (by show G < _; omega)).setCell ⟨G + 1, 0, none⟩ _ (by show G + 1 < _; omega), (bel.setCell (p := ⟨G, 0, none⟩) (by show _ ≤ G; omega) _).setCell (p := ⟨G + 1, 0, none⟩) (by show _ ≤ G + 1; omega) _⟩
  · rw [Below.heap_setCell _ ⟨G + 1, 0, none⟩ _ G (by show G ≠ G + 1; omega), heap_setCell_same W G 0 #[bv] 46 x c1]; rfl
  · have c2' := (Below.heap_setCell W ⟨G, 0, none⟩ x (G + 1) (by show G + 1 ≠ G; omega)).trans c2
    rw [heap_setCell_same (W.setCell ⟨G, 0, none⟩ x) (G + 1) 0 #[.int .i64 least] 3 (.int .i64 C) c2']; rfl
  · rcases rd with h5 | ⟨hp, b, off, cap, hvv, hlt, hc⟩
    · exact .inl h5
    · have hbw2 : b < w.heap.size := by
        simp only [Value.slice.injEq] at hvv
        rcases hlb with hz | ⟨b', o, h1, hb⟩
        · omega
        · rw [h1] at hvv
          simp only [Option.some.injEq, Addr.mk.injEq, and_true] at hvv
          omega
      exact .inr ⟨hp, b, off, cap, hvv, by rw [show ((W.setCell ⟨G, 0, none⟩ x).setCell ⟨G + 1, 0, none⟩ (.int .i64 C)).heap.size = W.heap.size from by simp [World.setCell]]; exact hlt, fun i hi => (World.cell?_of_block (bk _ (by show b ≠ G; omega) (by show b ≠ G + 1; omega))).trans (hc i hi)⟩

set_option maxHeartbeats 4000000 in
theorem iEvenWrap_ok (n : Nat) (hn : 5 ≤ n) (l : List ByteArray) (wd : Int) (v : Value) (w : World) (hl : LStrs w v l) (hlen : l.length ≤ maxLen) (hsz : ∀ i, i < l.length → (nth l i).size ≤ maxLen) (hv : pl.vWords l = true) (hin : pl.inR wd 1 120 = true) :
    CallsIn Fence.wide n Try.prog 21 #[v, .int .i64 wd] w fun e w' => ∃ v', e = .returned (.tuple #[v', .bool (pl.fitA l wd)]) ∧ OStrs w.heap.size w' v' (pl.evenR l wd) ∧ Below w.heap.size w w' := by
  have h1 : 1 ≤ n := by omega
  obtain ⟨hr, a0, cap0, rfl, hcap⟩ := hl
  obtain ⟨N, hN⟩ : ∃ N, N = l.length := ⟨_, rfl⟩
  rw [← hN] at hr hcap ⊢
  have HN := Lib.hid hN
  have HR := Lib.hid hr
  have HLn := Lib.hid hlen
  have HSZ := Lib.hid hsz
  clear hr hlen hsz hN
  refine callsIn_of_wp_marks Try.func21 rfl trivial ?_ rfl
  simp only [Try.ntmps21, List.size_toArray, List.length_cons, List.length_nil, Nat.reduceAdd, Nat.reduceSub, Array.replicate_succ, Array.replicate_zero, List.push_toArray, List.append_toArray, List.nil_append, List.cons_append]
  gi_wp2_with fail
  have hbA := (Below.refl w.heap.size w).alloc (Nat.le_refl _) (.cells #[.int .i64 wd] 3)
  have hA0 : (w.alloc (.cells #[.int .i64 wd] 3)).heap[w.heap.size]? = some (.cells #[.int .i64 wd] 3 (0, 0)) := heap_alloc_new w _
  have hAs : (w.alloc (.cells #[.int .i64 wd] 3)).heap.size = w.heap.size + 1 := by simp
  generalize w.alloc (.cells #[.int .i64 wd] 3) = wA at hbA hA0 hAs ⊢
  refine ⟨trivial, callsIn_wide.2 ((iValidWords_any l _ _ (HR.out.below (Nat.le_refl _) hbA) HLn.out HSZ.out).mono ?_)⟩
  rintro e w1 ⟨rfl, hb1⟩
  rw [hv]
  have h10 : w1.heap[w.heap.size]? = some (.cells #[.int .i64 wd] 3 (0, 0)) := (hb1.block _ (by omega)).trans hA0
  have hbB := Lib.hid (hbA.trans (hb1.mono hbA.size))
  have h1s : w.heap.size + 1 ≤ w1.heap.size := by have := hb1.size; omega
  have hc10 : w1.cell? ⟨w.heap.size, 0, none⟩ = some (.int .i64 wd) := by simp only [World.cell?, h10]; rfl
  have hc12 : ((w1.alloc (.cells #[.slice none 0 0] 46)).alloc (.cells #[.int .i64 (-1)] 3)).cell? ⟨w.heap.size, 0, none⟩ = some (.int .i64 wd) :=
    (World.cell?_of_block ((Below.heap_alloc _ _ w.heap.size (by simp; omega)).trans (Below.heap_alloc _ _ w.heap.size (by omega)))).trans hc10
  clear hbA hb1 hA0 hAs
  gi_wp2_with fail
  refine ⟨trivial, callsIn_wide.2 ((isWidth_any _ _).mono ?_)⟩
  rintro e w' ⟨rfl, rfl⟩
  rw [hin]
  gi_wp2_with fail
  refine ⟨trivial, callsIn_wide.2 ((waysToWrap_any _ _ _ _ _).mono ?_)⟩
  rintro e w2 ⟨rfl, rfl⟩
  gi_wp2_with fail
  have hl9 : N ≤ 9 := by have := HN.out; have := (pl.vWords_parts hv).1; omega
  have hwd := pl.inR_parts hin
  obtain ⟨G, hG⟩ : ∃ G, Hid (w1.heap.size = G) := ⟨_, Lib.hid rfl⟩
  have hGs : w1.heap.size = G := hG.out
  obtain ⟨W3, HW3⟩ : ∃ u, Hid (((((w1.alloc (.cells #[.slice none 0 0] 46)).alloc (.cells #[.int .i64 (-1)] 3)).alloc (.cells #[.slice a0 N cap0] 23)).alloc (.cells #[.int .i64 wd] 3)) = u) := ⟨_, Lib.hid rfl⟩
  have hs3 : W3.heap.size = G + 4 := by rw [← HW3.out, ← hG.out]; simp
  have hev : EvS w G N a0 cap0 l wd [] (-1) (.slice none 0 0) W3 := by
    have x1 : (w1.alloc (.cells #[.slice none 0 0] 46)).heap[G]? = some (.cells #[.slice none 0 0] 46 (0, 0)) := by rw [← hG.out]; exact heap_alloc_new w1 _
    have x2 : ((w1.alloc (.cells #[.slice none 0 0] 46)).alloc (.cells #[.int .i64 (-1)] 3)).heap[G + 1]? = some (.cells #[.int .i64 (-1)] 3 (0, 0)) := by
      have := heap_alloc_new (w1.alloc (.cells #[.slice none 0 0] 46)) (.cells #[.int .i64 (-1)] 3)
      rw [World.size_alloc, hGs] at this; exact this
    have x3 : (((w1.alloc (.cells #[.slice none 0 0] 46)).alloc (.cells #[.int .i64 (-1)] 3)).alloc (.cells #[.slice a0 N cap0] 23)).heap[G + 1 + 1]? = some (.cells #[.slice a0 N cap0] 23 (0, 0)) := by
      have := heap_alloc_new ((w1.alloc (.cells #[.slice none 0 0] 46)).alloc (.cells #[.int .i64 (-1)] 3)) (.cells #[.slice a0 N cap0] 23)
      rw [World.size_alloc, World.size_alloc, hGs] at this; exact this
    have x4 : W3.heap[G + 1 + 1 + 1]? = some (.cells #[.int .i64 wd] 3 (0, 0)) := by
      have := heap_alloc_new (((w1.alloc (.cells #[.slice none 0 0] 46)).alloc (.cells #[.int .i64 (-1)] 3)).alloc (.cells #[.slice a0 N cap0] 23)) (.cells #[.int .i64 wd] 3)
      rw [World.size_alloc, World.size_alloc, World.size_alloc, hGs] at this; rw [← HW3.out]; exact this
    have hb3 : Below w1.heap.size w1 W3 := by
      rw [← HW3.out]
      exact ((((Below.refl _ _).alloc (Nat.le_refl _) _).alloc (by simp) _).alloc (by simp; omega) _).alloc (by simp; omega) _
    have y3 : W3.heap[G + 1 + 1]? = some (.cells #[.slice a0 N cap0] 23 (0, 0)) := by
      rw [← HW3.out]; exact (Below.heap_alloc _ _ _ (by simp; omega)).trans x3
    have y2 : W3.heap[G + 1]? = some (.cells #[.int .i64 (-1)] 3 (0, 0)) := by
      rw [← HW3.out]; exact (Below.heap_alloc _ _ _ (by simp; omega)).trans ((Below.heap_alloc _ _ _ (by simp; omega)).trans x2)
    have y1 : W3.heap[G]? = some (.cells #[.slice none 0 0] 46 (0, 0)) := by
      rw [← HW3.out]; exact (Below.heap_alloc _ _ _ (by simp; omega)).trans ((Below.heap_alloc _ _ _ (by simp; omega)).trans ((Below.heap_alloc _ _ _ (by simp; omega)).trans x1))
    refine ⟨by omega, ?_, HN.out, (hb3.block _ (by omega)).trans h10, y1, y2, by simp only [World.cell?, y3]; rfl, by simp only [World.cell?, x4]; rfl, HR.out.below (Nat.le_refl _) (hbB.out.trans (hb3.mono hbB.out.size)), ORows.nil _ _, hbB.out.trans (hb3.mono hbB.out.size)⟩
    rcases HR.out with ⟨hz, _⟩ | ⟨hp, b1, o1, c1, hvv, hlt, _⟩
    · left; rw [HN.out, hz]; rfl
    · right
      simp only [Value.slice.injEq] at hvv
      exact ⟨b1, o1, hvv.1, hlt⟩
  clear hc12 hc10 h10
  rw [HW3.out, hGs]
  have H12 := Lib.hid (pl.words_12 hv)
  refine range_ways (fun x => { tmps := #[.slice a0 N cap0, .int .i64 wd, undef, .pointer (some ⟨w.heap.size, 0, none⟩), .slice none 0 0, .bool false, .pointer (some ⟨G, 0, none⟩), .pointer (some ⟨G + 1, 0, none⟩), x, undef, .slice a0 N cap0, .bool true, .bool false, .bool false, .int .i64 wd, .bool true, .bool false, .bool false, .slice a0 N cap0, .int .i64 wd, .func (.func 80) #[] #[.pointer (some ⟨G + 1 + 1, 0, none⟩), .pointer (some ⟨G + 1 + 1 + 1, 0, none⟩)], x, undef, undef, undef, undef, undef, undef, undef, undef, undef, undef, undef, undef, undef, undef, undef, undef, undef, undef, undef, undef, undef, undef, undef, undef, undef, undef, undef], defers := [] }) (by omega) (G + 4) hs3 (G + 1 + 1) (G + 1 + 1 + 1) N a0 cap0 l wd HN hl9 H12.out rfl rfl
    (fun m W => ∃ best least bv, EvS w G N a0 cap0 l wd best least bv W ∧ Hid (pl.BInv wd l m best least))
    ?hIs ?hIc ?hIn ?h0 ?hassign ?hbody ?hQ
  case hIs =>
    rintro m W W' ⟨best, least, bv, hE, hB⟩ hap
    exact ⟨best, least, bv, hE.apart hap, hB⟩
  case hIc =>
    rintro m W ⟨best, least, bv, hE, hB⟩
    exact ⟨hE.c3, hE.c4, hE.rd⟩
  case hIn =>
    rintro m W ⟨best, least, bv, hE, hB⟩ hm hf
    exact ⟨best, least, bv, hE, Lib.hid (pl.binv_skip hB.out hf)⟩
  case h0 => exact ⟨_, _, _, hev, Lib.hid (pl.binv_start wd l)⟩
  case hassign =>
    intro x W K hK
    gi_wp2
    simpa using hK
  case hbody =>
    rintro m x W ⟨best, least, bv, hE, hB⟩ hsz hm hf hx
    clear hev HW3 hs3
    obtain ⟨ax, nx, cx, rfl⟩ : ∃ ax nx cx, x = .slice ax nx cx := by
      rcases hx.reads with ⟨_, c, h2⟩ | ⟨b, c, h2, _⟩
      · exact ⟨_, _, _, h2⟩
      · exact ⟨_, _, _, h2⟩
    obtain ⟨gs, hgs⟩ : ∃ gs, Hid (pl.wayB m l l.length = gs) := ⟨_, Lib.hid rfl⟩
    have hway := Lib.hid (pl.wayB_way m l hf)
    rw [hgs.out] at hway hf hx
    have hglen := flat_len hway.out.1 hway.out.2.1
    have HF := Lib.hid hf
    have HX := Lib.hid hx
    have k0 : W.cell? ⟨w.heap.size, 0, none⟩ = some (.int .i64 wd) := by simp only [World.cell?, hE.c0]; rfl
    have HE := Lib.hid hE
    obtain ⟨C, hC⟩ : ∃ C, Hid (pl.costG wd gs = C) := ⟨_, Lib.hid rfl⟩
    have hCb : 0 ≤ C ∧ C ≤ 14400 * 20 := by
      have h := pl.costTo_bound (wd := wd) (z := rz (rowsG 0 gs)) hwd.2 (gs.length - 1) (fun i hi => ⟨by unfold rz; omega, rz_fit HF.out i (by rw [rowsG_len]; omega)⟩)
      rw [cost_rows, hC.out] at h
      have := HN.out
      omega
    clear hf hx hE hm
    refine wpIn_mono (Q := fun e _ W5 => e = .normal ∧ ∃ W4, Below W.heap.size W W4 ∧ ((W5 = W4 ∧ Hid (pl.BInv wd l (m + 1) best least)) ∨ (W5 = (W4.setCell ⟨G, 0, none⟩ (.slice ax nx cx)).setCell ⟨G + 1, 0, none⟩ (.int .i64 C) ∧ Hid (pl.BInv wd l (m + 1) gs C)))) ?_ ?_
    · gi_wp2_with fail
      refine ⟨trivial, fun _ => by omega, CallsIn.inRound _ (callsIn_wide.2 ((costOfWay_any (rowsG 0 gs) wd _ _ HX.out.reads (by rw [rowsG_len]; have := HN.out; omega) hwd.2 hwd.1 (fun i hi => rz_fit HF.out i hi)).mono ?_))⟩
      rintro e W4 ⟨rfl, hb4⟩
      rw [rowsG_len, cost_rows, hC.out]
      have HE4 := Lib.hid (HE.out.apart (Apart.of_below hb4))
      have k1 : W4.cell? ⟨G, 0, none⟩ = some bv := by simp only [World.cell?, HE4.out.c1]; rfl
      have k2 : W4.cell? ⟨G + 1, 0, none⟩ = some (.int .i64 least) := by simp only [World.cell?, HE4.out.c2]; rfl
      have f1 : W4.frozen? ⟨G, 0, none⟩ = false := by simp only [World.frozen?, HE4.out.c1]; rfl
      have f2 : W4.frozen? ⟨G + 1, 0, none⟩ = false := by simp only [World.frozen?, HE4.out.c2]; rfl
      have HR4 := Lib.hid (HX.out.below (Nat.le_refl _) hb4)
      clear k0
      by_cases c1 : least < 0
      · have hB2 : Hid (pl.BInv wd l (m + 1) gs C) := Lib.hid (by
          rw [← hC.out, ← hgs.out]
          exact pl.binv_take hB.out (by rw [hgs.out]; exact HF.out) (.inl c1))
        gi_wp2_with fail
        · rename_i e _; exact absurd e (by simp [undef])
        · rename_i e _; exact absurd e (by simp [undef])
        · refine ⟨trivial, ?_⟩
          gi_wp2_with fail
          exact ⟨W4, hb4, .inr rfl⟩
      · by_cases c2 : C < least
        · have hB2 : Hid (pl.BInv wd l (m + 1) gs C) := Lib.hid (by
            rw [← hC.out, ← hgs.out]
            refine pl.binv_take hB.out (by rw [hgs.out]; exact HF.out) (.inr (.inl ?_))
            rw [hgs.out, hC.out]
            rcases hB.out with ⟨h, _, _⟩ | ⟨h, _, _⟩
            · omega
            · rw [← h]; exact c2)
          gi_wp2_with fail
          · rename_i e _; exact absurd e (by simp [undef])
          · rename_i e _; exact absurd e (by simp [undef])
          · refine ⟨trivial, ?_⟩
            gi_wp2_with fail
            exact ⟨W4, hb4, .inr rfl⟩
        · by_cases c3 : C = least
          · subst c3
            have hbw : pl.isWay wd l best ∧ C = pl.costG wd best := by
              rcases hB.out with ⟨h, _, _⟩ | ⟨h, h2, _⟩
              · omega
              · exact ⟨h2, h⟩
            have HBW := Lib.hid hbw
            clear hbw
            gi_wp2_with fail
            refine ⟨trivial, fun _ => by omega, CallsIn.inRound _ (callsIn_wide.2 ((isFuller_all gs best l _ bv _ HR4.out.reads HE4.out.rows.reads hway.out.2.1 HBW.out.1.2.1 hway.out.1 HBW.out.1.1 (by rw [← HN.out]; exact hl9) H12.out).mono ?_))⟩
            rintro e W5 ⟨rfl, hb5⟩
            have hb45 := hb4.trans (hb5.mono hb4.size)
            have HE5 := Lib.hid (HE4.out.apart (Apart.of_below hb5))
            have k3 : W5.cell? ⟨G, 0, none⟩ = some bv := by simp only [World.cell?, HE5.out.c1]; rfl
            have k4 : W5.cell? ⟨G + 1, 0, none⟩ = some (.int .i64 C) := by simp only [World.cell?, HE5.out.c2]; rfl
            have f3 : W5.frozen? ⟨G, 0, none⟩ = false := by simp only [World.frozen?, HE5.out.c1]; rfl
            have f4 : W5.frozen? ⟨G + 1, 0, none⟩ = false := by simp only [World.frozen?, HE5.out.c2]; rfl
            by_cases hfu : pl.fuller gs best = true
            · rw [hfu]
              have hB2 : Hid (pl.BInv wd l (m + 1) gs C) := Lib.hid (by
                have := pl.binv_take hB.out (by rw [hgs.out]; exact HF.out) (.inr (.inr ⟨by rw [hgs.out, hC.out]; exact HBW.out.2, .inr (by rw [hgs.out]; exact hfu)⟩))
                rw [hgs.out, hC.out] at this; exact this)
              gi_wp2_with fail
              exact ⟨W5, hb45, .inr rfl⟩
            · have hfu' : pl.fuller gs best = false := by simpa using hfu
              rw [hfu']
              have hB2 : Hid (pl.BInv wd l (m + 1) best C) := Lib.hid (by
                refine pl.binv_keep hB.out (by omega) (.inr ⟨by rw [hgs.out, hC.out]; exact HBW.out.2.symm, ?_⟩)
                rw [hgs.out]
                rcases pl.fuller_total best gs l HBW.out.1 hway.out with h | h | h
                · exact .inl h
                · exact .inr h
                · rw [hfu'] at h; cases h)
              gi_wp2_with fail
              exact ⟨W5, hb45, .inl rfl⟩
          · have hB2 : Hid (pl.BInv wd l (m + 1) best least) := Lib.hid (by
              refine pl.binv_keep hB.out (by omega) (.inl ?_)
              rw [hgs.out, hC.out]
              rcases hB.out with ⟨h, _, _⟩ | ⟨h, _, _⟩
              · omega
              · rw [← h]; omega)
            gi_wp2_with fail
            refine ⟨trivial, ?_⟩
            gi_wp2_with fail
            exact ⟨W4, hb4, .inl rfl⟩
    · rintro e a3 W5 ⟨rfl, W4, hb4, h⟩
      have HE4 := HE.out.apart (Apart.of_below hb4)
      rcases h with ⟨rfl, hB2⟩ | ⟨rfl, hB2⟩
      · exact ⟨rfl, ⟨_, _, _, HE4, hB2⟩, hb4.block _ (by omega), hb4.block _ (by omega)⟩
      · refine ⟨rfl, ⟨_, _, _, HE4.take gs C _ (HX.out.below (Nat.le_refl _) hb4), hB2⟩, ?_, ?_⟩
        · exact ((Below.heap_setCell _ ⟨G + 1, 0, none⟩ _ _ (by show G + 4 ≠ G + 1; omega)).trans (Below.heap_setCell W4 ⟨G, 0, none⟩ _ _ (by show G + 4 ≠ G; omega))).trans (hb4.block _ (by omega))
        · exact ((Below.heap_setCell _ ⟨G + 1, 0, none⟩ _ _ (by show G + 4 + 1 ≠ G + 1; omega)).trans (Below.heap_setCell W4 ⟨G, 0, none⟩ _ _ (by show G + 4 + 1 ≠ G; omega))).trans (hb4.block _ (by omega))
  case hQ =>
    rintro W ⟨best, least, bv, hE, hB⟩ hK
    have HE := Lib.hid hE
    have k1 : W.cell? ⟨G, 0, none⟩ = some bv := by simp only [World.cell?, hE.c1]; rfl
    have k2 : W.cell? ⟨G + 1, 0, none⟩ = some (.int .i64 least) := by simp only [World.cell?, hE.c2]; rfl
    have hgw : w.heap.size ≤ G := by have := hE.lo; omega
    clear hE hev HW3 hs3
    by_cases c1 : least < 0
    · have hfit : Hid (pl.fitA l wd = false) := Lib.hid (by
        cases hsh : pl.shortAll l wd with
        | false => unfold pl.fitA; rw [hsh]; rfl
        | true => exact absurd (pl.greedy_way hsh) (pl.binv_none hB.out c1 _))
      have hev : Hid (pl.evenR l wd = []) := Lib.hid (pl.evenR_no hfit.out)
      gi_wp2_with fail
      refine ⟨by simp, .inl ⟨_, _, rfl, run_takeDeferred hK, ?_⟩⟩
      refine ⟨_, results_tmp2 rfl _ _ _, ?_⟩
      exact ⟨.slice none 0 0, by rw [hfit.out]; rfl, by rw [hev.out]; exact OStrs.nil _ _, (Apart.putObj (D := G + 4) W _ (.inl rfl)).below HE.out.bel (by omega) rfl⟩
    · have hbest := Lib.hid (pl.binv_done hB.out c1)
      have hfit : Hid (pl.fitA l wd = true) := Lib.hid (by
        unfold pl.fitA
        rw [pl.way_short hbest.out.1, hv, hin]; rfl)
      have hev : Hid (pl.evenR l wd = best.map pl.jline) := Lib.hid (pl.evenR_yes hfit.out hbest.out)
      gi_wp2_with fail
      refine ⟨trivial, callsIn_wide.2 ((textsOf_any W.heap.size _ bv l best W ⟨HE.out.rd, a0, cap0, by rw [← HN.out], by rw [← HN.out]; exact hcap⟩ HE.out.rows.reads hbest.out.1.1 hbest.out.1.2.1 (by rw [← HN.out]; omega) H12.out rfl).mono ?_)⟩
      rintro e W5 ⟨v', rfl, ho5, hb5⟩
      have hKl : G + 4 < W.heap.size := (Array.getElem?_eq_some_iff.1 hK).1
      have hK5 : W5.heap[G + 4]? = some (.deferred (some [])) := (hb5.block _ hKl).trans hK
      have hbe : Below w.heap.size w W5 := HE.out.bel.trans (hb5.mono HE.out.bel.size)
      have hsw : w.heap.size ≤ W.heap.size := HE.out.bel.size
      gi_wp2_with fail
      refine ⟨by simp, .inl ⟨_, _, rfl, run_takeDeferred hK5, ?_⟩⟩
      refine ⟨_, results_tmp2 rfl _ _ _, ?_⟩
      exact ⟨v', by rw [hfit.out]; rfl, by rw [hev.out]; exact (ho5.putObj (G + 4) _ hKl).mono hsw, (Apart.putObj (D := G + 4) W5 _ (.inl rfl)).below hbe (by omega) rfl⟩

theorem iEvenWrap_any (l : List ByteArray) (wd : Int) (v : Value) (w : World) (hl : LStrs w v l) (hlen : l.length ≤ maxLen) (hsz : ∀ i, i < l.length → (nth l i).size ≤ maxLen) :
    Calls Try.prog 21 #[v, .int .i64 wd] w fun e w' => ∃ v', e = .returned (.tuple #[v', .bool (pl.fitA l wd)]) ∧ OStrs w.heap.size w' v' (pl.evenR l wd) ∧ Below w.heap.size w w' := by
  by_cases hv : pl.vWords l = true
  · by_cases hin : pl.inR wd 1 120 = true
    · exact callsIn_wide.1 (iEvenWrap_ok 5 (by omega) l wd v w hl hlen hsz hv hin)
    · have hin' : pl.inR wd 1 120 = false := by simpa using hin
      have hb := Lib.hid (pl.fitA_no (l := l) (wd := wd) (.inr (.inl hin')))
      have hev := Lib.hid (pl.evenR_no hb.out)
      clear hin
      go_enter Try.func21, Try.ntmps21
      go_wp2_with fail
      have hbA := (Below.refl w.heap.size w).alloc (Nat.le_refl _) (.cells #[.int .i64 wd] 3)
      have hA0 : (w.alloc (.cells #[.int .i64 wd] 3)).heap[w.heap.size]? = some (.cells #[.int .i64 wd] 3 (0, 0)) := heap_alloc_new w _
      have hAs : (w.alloc (.cells #[.int .i64 wd] 3)).heap.size = w.heap.size + 1 := by simp
      generalize w.alloc (.cells #[.int .i64 wd] 3) = wA at hbA hA0 hAs ⊢
      refine (iValidWords_any l _ _ (hl.1.below (Nat.le_refl _) hbA) hlen hsz).mono ?_
      rintro e w1 ⟨rfl, hb1⟩
      rw [hv]
      have hb2 := hbA.trans (hb1.mono hbA.size)
      have h10 : w1.heap[w.heap.size]? = some (.cells #[.int .i64 wd] 3 (0, 0)) := (hb1.block _ (by omega)).trans hA0
      have hc10 : w1.cell? ⟨w.heap.size, 0, none⟩ = some (.int .i64 wd) := by simp only [World.cell?, h10]; rfl
      go_wp2_with fail
      refine (isWidth_any _ _).mono ?_
      rintro e w' ⟨rfl, rfl⟩
      rw [hin']
      go_wp2_with fail
      go_ret2
      exact ⟨.slice none 0 0, by rw [hb.out]; rfl, by rw [hev.out]; exact OStrs.nil _ _, hb2⟩
  · have hv' : pl.vWords l = false := by simpa using hv
    have hb := Lib.hid (pl.fitA_no (l := l) (wd := wd) (.inl hv'))
    have hev := Lib.hid (pl.evenR_no hb.out)
    clear hv
    go_enter Try.func21, Try.ntmps21
    go_wp2_with fail
    have hbA := (Below.refl w.heap.size w).alloc (Nat.le_refl _) (.cells #[.int .i64 wd] 3)
    generalize w.alloc (.cells #[.int .i64 wd] 3) = wA at hbA ⊢
    refine (iValidWords_any l _ _ (hl.1.below (Nat.le_refl _) hbA) hlen hsz).mono ?_
    rintro e w1 ⟨rfl, hb1⟩
    rw [hv']
    have hb2 := hbA.trans (hb1.mono hbA.size)
    go_wp2_with fail
    go_ret2
    exact ⟨.slice none 0 0, by rw [hb.out]; rfl, by rw [hev.out]; exact OStrs.nil _ _, hb2⟩
end Go.Proofs.Ytfajllfedhifkaa
