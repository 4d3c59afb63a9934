/- Contract: the program's WaysOf. -/
import Derived.Test.YtfajllfedhifkaaRange
namespace Go.Proofs.Ytfajllfedhifkaa
open Go.RowKit
set_option maxRecDepth 100000
attribute [local go_sem] Oper.semAt_some

set_option maxHeartbeats 1000000 in
theorem waysToWrap_any (a0 : Option Addr) (N cap0 : Nat) (wd : Int) (w : World) :
    Calls Try.prog 58 #[.slice a0 N cap0, .int .i64 wd] w fun e w' => e = .returned (.func (.func 80) #[] #[.pointer (some ⟨w.heap.size, 0, none⟩), .pointer (some ⟨w.heap.size + 1, 0, none⟩)]) ∧ w' = (w.alloc (.cells #[.slice a0 N cap0] 23)).alloc (.cells #[.int .i64 wd] 3) := by
  go_enter Try.func58, Try.ntmps58
  go_wp2_with fail
  go_ret
  exact ⟨rfl, rfl⟩

set_option maxHeartbeats 2000000 in
theorem iWaysOf_ok (n : Nat) (hn : 5 ≤ n) (l : List ByteArray) (wd : Int) (v : Value) (w : World) (hl : LStrs w v l) (hlen : l.length ≤ maxLen) (hsz : ∀ i, i < l.length → (nth l i).size ≤ maxLen) (hv : pl.vWords l = true) (hin : pl.inR wd 1 120 = true) :
    CallsIn Fence.wide n Try.prog 35 #[v, .int .i64 wd] w fun e w' => e = .returned (.int .i64 (pl.waysN wd l)) ∧ Below w.heap.size w w' := by
  have h1 : 1 ≤ n := by omega
  obtain ⟨hr, a0, cap0, rfl, hcap⟩ := hl
  obtain ⟨N, hN⟩ : ∃ N, N = l.length := ⟨_, rfl⟩
  rw [← hN] at hr hcap ⊢
  have HN := Lib.hid hN
  have HR := Lib.hid hr
  have HLn := Lib.hid hlen
  have HSZ := Lib.hid hsz
  clear hr hlen hsz hN
  refine callsIn_of_wp_marks Try.func35 rfl trivial ?_ rfl
  simp only [Try.ntmps35, List.size_toArray, List.length_cons, List.length_nil, Nat.reduceAdd, Nat.reduceSub, Array.replicate_succ, Array.replicate_zero, List.push_toArray, List.append_toArray, List.nil_append, List.cons_append]
  gi_wp2_with fail
  refine ⟨trivial, callsIn_wide.2 ((iValidWords_any l _ _ HR.out HLn.out HSZ.out).mono ?_)⟩
  rintro e w1 ⟨rfl, hb1⟩
  rw [hv]
  gi_wp2_with fail
  refine ⟨trivial, callsIn_wide.2 ((isWidth_any _ _).mono ?_)⟩
  rintro e w' ⟨rfl, rfl⟩
  rw [hin]
  gi_wp2_with fail
  refine ⟨trivial, callsIn_wide.2 ((waysToWrap_any _ _ _ _ _).mono ?_)⟩
  rintro e w2 ⟨rfl, rfl⟩
  gi_wp2_with fail
  have hb1s := hb1.size
  obtain ⟨W3, HW3⟩ : ∃ u, Hid (((w1.alloc (.cells #[.int .i64 0] 3)).alloc (.cells #[.slice a0 N cap0] 23)).alloc (.cells #[.int .i64 wd] 3) = u) := ⟨_, Lib.hid rfl⟩
  obtain ⟨G, hG⟩ : ∃ G, Hid (w1.heap.size = G) := ⟨_, Lib.hid rfl⟩
  have hs3 : W3.heap.size = G + 3 := by rw [← HW3.out, ← hG.out]; simp
  have hGw : w.heap.size ≤ G := by rw [← hG.out]; exact hb1s
  have hb3 : Below w.heap.size w W3 := by rw [← HW3.out]; exact ((hb1.alloc hb1s _).alloc (by simp; omega) _).alloc (by simp; omega) _
  have hbw : Below w1.heap.size w1 W3 := by rw [← HW3.out]; exact (((Below.refl _ _).alloc (Nat.le_refl _) _).alloc (by simp) _).alloc (by simp; omega) _
  have hcG : W3.heap[G]? = some (.cells #[.int .i64 0] 3 (0, 0)) := by
    rw [← HW3.out, ← hG.out]
    exact (Below.heap_alloc _ _ _ (by simp; omega)).trans ((Below.heap_alloc _ _ _ (by simp)).trans (heap_alloc_new w1 _))
  have hcL : W3.cell? ⟨G + 1, 0, none⟩ = some (.slice a0 N cap0) := by
    rw [← HW3.out, ← hG.out]
    have h1 : ((w1.alloc (.cells #[.int .i64 0] 3)).alloc (.cells #[.slice a0 N cap0] 23)).heap[w1.heap.size + 1]? = some (.cells #[.slice a0 N cap0] 23) := by
      have := heap_alloc_new (w1.alloc (.cells #[.int .i64 0] 3)) (.cells #[.slice a0 N cap0] 23); rwa [World.size_alloc] at this
    have h2 := (Below.heap_alloc ((w1.alloc (.cells #[.int .i64 0] 3)).alloc (.cells #[.slice a0 N cap0] 23)) (.cells #[.int .i64 wd] 3) (w1.heap.size + 1) (by simp)).trans h1
    simp only [World.cell?, h2]; rfl
  have hcW : W3.cell? ⟨G + 1 + 1, 0, none⟩ = some (.int .i64 wd) := by
    rw [← HW3.out, ← hG.out]
    have h1 := heap_alloc_new ((w1.alloc (.cells #[.int .i64 0] 3)).alloc (.cells #[.slice a0 N cap0] 23)) (.cells #[.int .i64 wd] 3)
    rw [World.size_alloc, World.size_alloc] at h1
    simp only [World.cell?, h1]; rfl
  have hR3 : RStrs W3 (.slice a0 N cap0) l := HR.out.below (Nat.le_refl _) hb3
  have hl9 : N ≤ 9 := by have := HN.out; have := (pl.vWords_parts hv).1; omega
  have hblk : ∀ b o n c, Value.slice a0 N cap0 = .slice (some ⟨b, o, none⟩) n c → N = 0 ∨ b < W3.heap.size := by
    intro b o n c h
    rcases HR.out with ⟨hz, _⟩ | ⟨hp, b1, o1, c1, hvv, hlt, _⟩
    · left; rw [HN.out, hz]; rfl
    · right
      rw [hvv] at h
      simp only [Value.slice.injEq, Option.some.injEq, Addr.mk.injEq, and_true] at h
      have h2 := hb3.size
      omega
  rw [HW3.out, hG.out]
  refine range_ways (fun x => { tmps := #[.slice a0 N cap0, .int .i64 wd, undef, undef, .int .i64 0, .pointer (some ⟨G, 0, none⟩), .slice a0 N cap0, .bool true, .bool false, .bool false, .int .i64 wd, .bool true, .bool false, .bool false, .slice a0 N cap0, .int .i64 wd, .func (.func 80) #[] #[.pointer (some ⟨G + 1, 0, none⟩), .pointer (some ⟨G + 1 + 1, 0, none⟩)], x, undef, undef, undef], defers := [] }) (by omega) W3.heap.size rfl (G + 1) (G + 1 + 1) N a0 cap0 l wd HN hl9 (pl.words_12 hv) rfl rfl
    (fun m W => (∃ c : Int, W.heap[G]? = some (.cells #[.int .i64 c] 3 (0, 0)) ∧ c = (pl.cntF (fun b => pl.fitG wd (pl.wayB b l l.length)) m : Nat)) ∧ W.cell? ⟨G + 1, 0, none⟩ = some (.slice a0 N cap0) ∧ W.cell? ⟨G + 1 + 1, 0, none⟩ = some (.int .i64 wd) ∧ RStrs W (.slice a0 N cap0) l ∧ Below w.heap.size w W)
    ?hIs ?hIc ?hIn ?h0 ?hassign ?hbody ?hQ
  case hIs =>
    rintro m W W' ⟨⟨c, i1, i2⟩, i3, i4, i5, i6⟩ hap
    refine ⟨⟨c, ?_, i2⟩, hap.cell i3 (by show G + 1 ≠ _; omega) (by show G + 1 ≠ _; omega), hap.cell i4 (by show G + 1 + 1 ≠ _; omega) (by show G + 1 + 1 ≠ _; omega), ?_, hap.below i6 (by omega) rfl⟩
    · rw [hap.block G (Array.getElem?_eq_some_iff.1 i1).1 (by omega) (by omega)]; exact i1
    · rcases Nat.eq_zero_or_pos N with h | h
      · left
        have : l = [] := List.length_eq_zero_iff.1 (by rw [← HN.out]; exact h)
        exact ⟨this, a0, cap0, by rw [h]⟩
      · exact hap.rstrs i5 (fun b o n c hv2 => by rcases hblk b o n c hv2 with h2 | h2 <;> omega)
  case hIc =>
    rintro m W ⟨_, i3, i4, i5, _⟩
    exact ⟨i3, i4, i5⟩
  case hIn =>
    rintro m W ⟨⟨c, i1, i2⟩, i3⟩ hm hf
    refine ⟨⟨c, i1, ?_⟩, i3⟩
    rw [i2, pl.cntF_succ, hf]; simp
  case h0 => exact ⟨⟨0, hcG, rfl⟩, hcL, hcW, hR3, hb3⟩
  case hassign =>
    intro x W K hK
    gi_wp2
    simpa using hK
  case hbody =>
    rintro m x W ⟨⟨c, i1, i2⟩, i3, i4, i5, i6⟩ hsz hm hf _
    have hcb : 0 ≤ c ∧ c ≤ 256 := by
      have h1 := pl.cntF_le (fun b => pl.fitG wd (pl.wayB b l l.length)) m
      have h2 := pow_256 N (by omega)
      rw [HN.out] at h2
      rw [i2]; omega
    have c1 : W.cell? ⟨G, 0, none⟩ = some (.int .i64 c) := by simp only [World.cell?, i1]; rfl
    have f1 : W.frozen? ⟨G, 0, none⟩ = false := by simp only [World.frozen?, i1]; rfl
    have I2 := Lib.hid i2
    clear i2
    refine wpIn_mono (Q := fun e _ W4 => e = .normal ∧ Hid (W4 = W.setCell ⟨G, 0, none⟩ (.int .i64 (c + 1)))) ?_ ?_
    · gi_wp2
      exact trivial
    · rintro e a3 W4 ⟨rfl, hW4⟩
      have hw4 := hW4.out
      subst hw4
      have hbl : ∀ k, k ≠ G → (W.setCell ⟨G, 0, none⟩ (.int .i64 (c + 1))).heap[k]? = W.heap[k]? := fun k hk => Below.heap_setCell W ⟨G, 0, none⟩ _ k hk
      refine ⟨rfl, ⟨⟨c + 1, ?_, ?_⟩, ?_, ?_, ?_, i6.setCell (p := ⟨G, 0, none⟩) hGw _⟩, hbl _ (by omega), hbl _ (by omega)⟩
      · have := heap_setCell_same W G 0 #[.int .i64 c] 3 (.int .i64 (c + 1)) i1
        rw [this]; rfl
      · rw [pl.cntF_succ, hf, I2.out]; simp
      · exact (World.cell?_of_block (hbl _ (by show G + 1 ≠ G; omega))).trans i3
      · exact (World.cell?_of_block (hbl _ (by show G + 1 + 1 ≠ G; omega))).trans i4
      · rcases i5 with h5 | ⟨hp, b, off, cap, hvv, hlt, hc⟩
        · exact .inl h5
        · have hbw2 : b < w.heap.size := by
            rcases HR.out with ⟨hz, _⟩ | ⟨_, b1, o1, c1, hvv2, hlt2, _⟩
            · rw [hz] at hp; simp at hp
            · rw [hvv] at hvv2
              simp only [Value.slice.injEq, Option.some.injEq, Addr.mk.injEq, and_true, true_and] at hvv2
              omega
          exact .inr ⟨hp, b, off, cap, hvv, by rw [show (W.setCell ⟨G, 0, none⟩ (.int .i64 (c + 1))).heap.size = W.heap.size from by simp [World.setCell]]; exact hlt, fun i hi => (World.cell?_of_block (hbl _ (by show b ≠ G; omega))).trans (hc i hi)⟩
  case hQ =>
    rintro W ⟨⟨c, i1, i2⟩, i3, i4, i5, i6⟩ hK
    have c1 : W.cell? ⟨G, 0, none⟩ = some (.int .i64 c) := by simp only [World.cell?, i1]; rfl
    have I2 := Lib.hid i2
    clear i2
    gi_wp2
    refine ⟨by simp, .inl ⟨_, _, rfl, run_takeDeferred hK, ?_⟩⟩
    refine ⟨_, results_tmp rfl _ _ _, ?_, (Apart.putObj (D := W3.heap.size) W _ (.inl rfl)).below i6 (by omega) rfl⟩
    rw [I2.out]; rfl
end Go.Proofs.Ytfajllfedhifkaa
