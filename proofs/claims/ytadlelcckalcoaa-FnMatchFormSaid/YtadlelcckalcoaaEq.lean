/- Contracts: slices of strings are compared (laws' equalTexts, eqStringS). -/
import Derived.Test.YtadlelcckalcoaaPkB
import Derived.Lib.Hide
import Derived.Lib.Strings
import Derived.Outline
import Derived.Deep.QuietTactic
import Derived.BigQuiet
namespace Go.Proofs.Ytadlelcckalcoaa
open Go.RowKit
set_option maxRecDepth 100000

theorem below_drewN {B n : Nat} {w : World} : Below B w (w.drewN n) := ⟨rfl, rfl, rfl, Nat.le_refl _, fun _ _ => rfl⟩

def sameTo (a b : List ByteArray) (k : Nat) : Prop := ∀ i, i < k → nth a i = nth b i
theorem sameTo_succ {a b : List ByteArray} {k : Nat} {x : ByteArray} (h : sameTo a b k) (h1 : x = nth a k) (h2 : x = nth b k) : sameTo a b (k + 1) := by
  intro i hlt
  by_cases hk : i = k
  · subst hk; rw [← h1, ← h2]
  · exact h i (by omega)
theorem sameTo_all {a b : List ByteArray} (hl : a.length = b.length) (h : sameTo a b a.length) : decide (a = b) = true :=
  decide_eq_true (nth_ext hl h)
theorem same_no {a b : List ByteArray} {k : Nat} {x y : ByteArray} (h1 : x = nth a k) (h2 : y = nth b k) (e : ¬ x = y) : decide (a = b) = false := by
  apply decide_eq_false
  intro h
  subst h
  exact e (by rw [h1, h2])
theorem same_len {a b : List ByteArray} (h : a.length ≠ b.length) : decide (a = b) = false := by
  apply decide_eq_false
  intro e
  exact h (by rw [e])

theorem toList_ne {x y : ByteArray} (e : ¬ x = y) : (x.toList == y.toList) = false := by
  rw [beq_eq_false_iff_ne]
  intro h
  rw [Lib.toList_data, Lib.toList_data] at h
  obtain ⟨⟨a⟩⟩ := x; obtain ⟨⟨b⟩⟩ := y
  simp only at h
  exact e (by rw [h])

set_option maxHeartbeats 1000000 in
theorem eqStringS_any (la lb : List ByteArray) (va vb : Value) (w : World) (hA : RStrs w va la) (hB : RStrs w vb lb) (hla : la.length ≤ 2000000) :
    Calls Try.prog 27 #[va, vb] w fun e w' => e = .returned (.bool (decide (la = lb))) ∧ Below w.heap.size w w' := by
  by_cases hl : la.length = lb.length
  · rcases hA with ⟨hz, a, cap, rfl⟩ | ⟨hpos, b1, o1, c1, rfl, hb1, hc1⟩
    · rcases hB with ⟨hz2, a2, cap2, rfl⟩ | ⟨hpos2, b2, o2, c2, rfl, hb2, hc2⟩
      · have hd : decide (la = lb) = true := by rw [hz, hz2]; rfl
        have hd' := Lib.hid hd
        clear hd hz hz2 hl hla
        go_enter Try.func27, Try.ntmps27
        go_wp2
        refine wp_loop_rounds 1 ?_
        rw [rounds_succ]
        go_wp2
        go_ret
        exact ⟨by rw [hd'.out]; rfl, Below.refl _ _⟩
      · rw [hz] at hl; simp at hl; omega
    · rcases hB with ⟨hz2, a2, cap2, rfl⟩ | ⟨hpos2, b2, o2, c2, rfl, hb2, hc2⟩
      · rw [hz2] at hl; simp at hl; rw [hl] at hpos; simp at hpos
      · have HL := Lib.hid hl
        rw [← hl] at hpos2 hc2
        rw [← hl]
        obtain ⟨n, hn⟩ : ∃ n, n = la.length := ⟨_, rfl⟩
        rw [← hn] at hla hpos hc1 hc2 ⊢
        have HN := Lib.hid hn
        have HC1 := Lib.hid hc1
        have HC2 := Lib.hid hc2
        clear hn hl hc1 hc2 hpos2
        go_enter Try.func27, Try.ntmps27
        go_wp2
        go_loopw [5] (fun i wr => ∃ k : Nat, k ≤ n ∧ i = .int .i64 k ∧ sameTo la lb k ∧ Below w.heap.size w wr) (fun i _ => n - (intOf i).toNat)
        case atStart => exact ⟨0, Nat.zero_le _, rfl, fun i h => absurd h (by omega), Below.refl _ _⟩
        case round =>
          obtain ⟨k, hk, rfl, hsame, hbel⟩ := hrel
          by_cases hlt : k < n
          · have hx := (hbel.cell (p := ⟨b1, o1 + k, none⟩) hb1).trans (HC1.out k hlt)
            have hy := (hbel.cell (p := ⟨b2, o2 + k, none⟩) hb2).trans (HC2.out k hlt)
            obtain ⟨x, HX⟩ : ∃ x, Hid (x = nth la k) := ⟨_, Lib.hid rfl⟩
            obtain ⟨y, HY⟩ : ∃ y, Hid (y = nth lb k) := ⟨_, Lib.hid rfl⟩
            rw [← HX.out] at hx
            rw [← HY.out] at hy
            by_cases e : x = y
            · subst e
              have hn := Lib.hid (sameTo_succ hsame HX.out HY.out)
              clear hsame
              go_wp2
              go_quiet (fail)
              go_wp2
              go_roundw
              case rel => exact ⟨k + 1, by omega, by go_num, hn.out, hbel.trans below_drewN⟩
              case measure => simp [intOf]; omega
            · have hn := Lib.hid (same_no HX.out HY.out e)
              clear hsame
              have e' := toList_ne e
              go_wp2
              go_quiet (fail)
              go_wp2
              go_ret
              exact ⟨by rw [hn.out]; rfl, hbel.trans below_drewN⟩
          · obtain rfl : k = n := by omega
            have hn := Lib.hid (sameTo_all HL.out (by rw [← HN.out]; exact hsame))
            clear hsame
            go_wp2
            go_ret
            exact ⟨by rw [hn.out]; rfl, hbel⟩
  · have hd := Lib.hid (same_len hl)
    have hl' : ((la.length : Int) == (lb.length : Int)) = false := by simp; omega
    obtain ⟨a1, c1, rfl⟩ := hA.slice
    obtain ⟨a2, c2, rfl⟩ := hB.slice
    clear hA hB
    go_enter Try.func27, Try.ntmps27
    go_wp2
    go_ret
    exact ⟨by rw [hd.out]; rfl, Below.refl _ _⟩
set_option maxHeartbeats 1000000 in
theorem equalTexts_any (la lb : List ByteArray) (va vb : Value) (w : World) (hA : RStrs w va la) (hB : RStrs w vb lb) (hla : la.length ≤ 2000000) :
    Calls Try.prog 13 #[va, vb] w fun e w' => e = .returned (.bool (decide (la = lb))) ∧ Below w.heap.size w w' := by
  by_cases hl : la.length = lb.length
  · rcases hA with ⟨hz, a, cap, rfl⟩ | ⟨hpos, b1, o1, c1, rfl, hb1, hc1⟩
    · rcases hB with ⟨hz2, a2, cap2, rfl⟩ | ⟨hpos2, b2, o2, c2, rfl, hb2, hc2⟩
      · have hd : decide (la = lb) = true := by rw [hz, hz2]; rfl
        have hd' := Lib.hid hd
        clear hd hz hz2 hl hla
        go_enter Try.func13, Try.ntmps13
        go_wp2
        refine wp_loop_rounds 1 ?_
        rw [rounds_succ]
        go_wp2
        go_ret
        exact ⟨by rw [hd'.out]; rfl, Below.refl _ _⟩
      · rw [hz] at hl; simp at hl; omega
    · rcases hB with ⟨hz2, a2, cap2, rfl⟩ | ⟨hpos2, b2, o2, c2, rfl, hb2, hc2⟩
      · rw [hz2] at hl; simp at hl; rw [hl] at hpos; simp at hpos
      · have HL := Lib.hid hl
        rw [← hl] at hpos2 hc2
        rw [← hl]
        obtain ⟨n, hn⟩ : ∃ n, n = la.length := ⟨_, rfl⟩
        rw [← hn] at hla hpos hc1 hc2 ⊢
        have HN := Lib.hid hn
        have HC1 := Lib.hid hc1
        have HC2 := Lib.hid hc2
        clear hn hl hc1 hc2 hpos2
        go_enter Try.func13, Try.ntmps13
        go_wp2
        go_loopw [5] (fun i wr => ∃ k : Nat, k ≤ n ∧ i = .int .i64 k ∧ sameTo la lb k ∧ Below w.heap.size w wr) (fun i _ => n - (intOf i).toNat)
        case atStart => exact ⟨0, Nat.zero_le _, rfl, fun i h => absurd h (by omega), Below.refl _ _⟩
        case round =>
          obtain ⟨k, hk, rfl, hsame, hbel⟩ := hrel
          by_cases hlt : k < n
          · have hx := (hbel.cell (p := ⟨b1, o1 + k, none⟩) hb1).trans (HC1.out k hlt)
            have hy := (hbel.cell (p := ⟨b2, o2 + k, none⟩) hb2).trans (HC2.out k hlt)
            obtain ⟨x, HX⟩ : ∃ x, Hid (x = nth la k) := ⟨_, Lib.hid rfl⟩
            obtain ⟨y, HY⟩ : ∃ y, Hid (y = nth lb k) := ⟨_, Lib.hid rfl⟩
            rw [← HX.out] at hx
            rw [← HY.out] at hy
            by_cases e : x = y
            · subst e
              have hn := Lib.hid (sameTo_succ hsame HX.out HY.out)
              clear hsame
              go_wp2
              go_quiet (fail)
              go_wp2
              go_roundw
              case rel => exact ⟨k + 1, by omega, by go_num, hn.out, hbel.trans below_drewN⟩
              case measure => simp [intOf]; omega
            · have hn := Lib.hid (same_no HX.out HY.out e)
              clear hsame
              have e' := toList_ne e
              go_wp2
              go_quiet (fail)
              go_wp2
              go_ret
              exact ⟨by rw [hn.out]; rfl, hbel.trans below_drewN⟩
          · obtain rfl : k = n := by omega
            have hn := Lib.hid (sameTo_all HL.out (by rw [← HN.out]; exact hsame))
            clear hsame
            go_wp2
            go_ret
            exact ⟨by rw [hn.out]; rfl, hbel⟩
  · have hd := Lib.hid (same_len hl)
    have hl' : ((la.length : Int) == (lb.length : Int)) = false := by simp; omega
    obtain ⟨a1, c1, rfl⟩ := hA.slice
    obtain ⟨a2, c2, rfl⟩ := hB.slice
    clear hA hB
    go_enter Try.func13, Try.ntmps13
    go_wp2
    go_ret
    exact ⟨by rw [hd.out]; rfl, Below.refl _ _⟩
end Go.Proofs.Ytadlelcckalcoaa
