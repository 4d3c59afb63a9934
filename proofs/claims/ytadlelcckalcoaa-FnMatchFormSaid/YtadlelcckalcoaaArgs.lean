/- Contracts: the exact laws' helpers on slices of strings that came in: szStringS, toStringS. -/
import Derived.Test.YtadlelcckalcoaaMark
namespace Go.Proofs.Ytadlelcckalcoaa
open Go.RowKit
set_option maxRecDepth 100000

/-- a slice of strings that came in -/
def IsStrs (w : World) (a : Option Addr) (len cap : Nat) (ss : List ByteArray) : Prop :=
  (a = none ∧ len = 0 ∧ cap = 0 ∧ ss = []) ∨
  ∃ x, a = some x ∧ len ≤ cap ∧ cap ≤ maxLen ∧ ss.length = cap ∧ (∀ i, i < ss.length → w.cell? (x.add i) = some (.string (ss.getD i ByteArray.empty))) ∧ ∀ s ∈ ss, s.size ≤ maxLen

theorem IsStrs.reads {w : World} {a : Option Addr} {len cap : Nat} {ss : List ByteArray} (h : IsStrs w a len cap ss) :
    RStrs w (.slice a len cap) (ss.take len) ∧ (ss.take len).length = len ∧ len ≤ maxLen ∧ ∀ i, i < len → (nth (ss.take len) i).size ≤ maxLen := by
  rcases h with ⟨rfl, rfl, rfl, rfl⟩ | ⟨x, rfl, hl, hm, hz, hc, hw⟩
  · exact ⟨.inl ⟨rfl, _, _, rfl⟩, rfl, by unfold maxLen; omega, fun i h => by omega⟩
  · have hlen : (ss.take len).length = len := by rw [List.length_take]; omega
    have hnth : ∀ i, i < len → nth (ss.take len) i = ss.getD i ByteArray.empty := by
      intro i hi
      rw [nth_eq (by omega), List.getElem_take]
      simp [List.getD, show i < ss.length from by omega]
    refine ⟨?_, hlen, by omega, fun i hi => ?_⟩
    · by_cases h0 : len = 0
      · subst h0; exact .inl ⟨rfl, _, _, rfl⟩
      · obtain ⟨b, off, spot⟩ := x
        have hc0 := hc 0 (by omega)
        have hspot : spot = none := by simpa [Addr.add] using World.cell?_spot hc0
        subst hspot
        have hadd : ∀ i, (⟨b, off, none⟩ : Addr).add i = ⟨b, off + i, none⟩ := fun i => by unfold Addr.add; split <;> simp_all
        refine .inr ⟨by omega, b, off, cap, by rw [hlen], ?_, fun i hi => ?_⟩
        · have := World.block_lt_of_cell? w _ hc0
          rw [hadd] at this; exact this
        · rw [hlen] at hi
          rw [← hadd, hnth i hi]; exact hc i (by omega)
    · rw [hnth i hi]
      have hi' : i < ss.length := by omega
      have : ss.getD i ByteArray.empty = ss[i] := by simp [List.getD, hi']
      rw [this]; exact hw _ (List.getElem_mem hi')

def small (l : List ByteArray) : Prop := l.length ≤ 1048576 ∧ ∀ i, i < l.length → (nth l i).size ≤ 1048576

set_option maxHeartbeats 1000000 in
theorem szStringS_any (l : List ByteArray) (v : Value) (w : World) (hr : RStrs w v l) (hlen : l.length ≤ maxLen) (hsz : ∀ i, i < l.length → (nth l i).size ≤ maxLen) :
    Calls Try.prog 23 #[v, .int .i64 1048576] w fun e w' => (∃ r : Int, e = .returned (.int .i64 r) ∧ (r < 0 ∨ (0 ≤ r ∧ small l))) ∧ w = w' := by
  have hlen' := hlen
  unfold maxLen at hlen'
  obtain ⟨n, hn⟩ : ∃ n, n = l.length := ⟨_, rfl⟩
  have HN := Lib.hid hn
  have HSZ := Lib.hid hsz
  clear hsz hlen
  rcases hr with ⟨hz, a, cap, rfl⟩ | ⟨hpos, b1, o1, c1, rfl, hb1, hc1⟩
  · have hs : Hid (small l) := Lib.hid ⟨by rw [hz]; simp, fun i hi => by rw [hz] at hi; simp at hi⟩
    clear hn hz
    go_enter Try.func23, Try.ntmps23
    go_wp2_with fail
    refine wp_loop_rounds 1 ?_
    rw [rounds_succ]
    go_wp2_with fail
    go_ret
    exact ⟨⟨_, rfl, .inr ⟨by omega, hs.out⟩⟩, rfl⟩
  · rw [← hn] at hlen' hpos ⊢
    have HC := Lib.hid hc1
    clear hc1 hn
    by_cases hbig : 1048576 < n
    · go_enter Try.func23, Try.ntmps23
      go_wp2_with fail
      go_ret
      exact ⟨⟨-1, rfl, .inl (by omega)⟩, rfl⟩
    · go_enter Try.func23, Try.ntmps23
      go_wp2_with fail
      go_loop [1, 5] (fun lv iv => ∃ (k q : Nat), k ≤ n ∧ q ≤ 1048576 ∧ lv = .int .i64 q ∧ iv = .int .i64 k ∧ Hid (∀ i, i < k → (nth l i).size ≤ 1048576)) (fun _ iv => n - (intOf iv).toNat)
      case atStart => exact ⟨0, 1048576 - n, Nat.zero_le _, by omega, by go_num, rfl, Lib.hid (fun i h => by omega)⟩
      case round =>
        obtain ⟨k, q, hk, hq, rfl, rfl, hs⟩ := hrel
        by_cases hlt : k < n
        · have hx := HC.out k (by rw [← HN.out]; exact hlt)
          have hxm := HSZ.out k (by rw [← HN.out]; exact hlt)
          unfold maxLen at hxm
          obtain ⟨x, HX⟩ : ∃ x, Hid (nth l k = x) := ⟨_, Lib.hid rfl⟩
          rw [HX.out] at hx hxm
          by_cases hb : q < x.size
          · go_wp2_with fail
            go_ret
            exact ⟨⟨-1, rfl, .inl (by omega)⟩, rfl⟩
          · have hn2 : Hid (∀ i, i < k + 1 → (nth l i).size ≤ 1048576) := Lib.hid (fun i hi => by
              by_cases e : i = k
              · subst e; rw [HX.out]; omega
              · exact hs.out i (by omega))
            go_wp2_with fail
            go_round
            case rel => exact ⟨k + 1, q - x.size, by omega, by omega, by go_num, by go_num, hn2⟩
            case measure => simp [intOf]; omega
        · obtain rfl : k = n := by omega
          have hs2 : Hid (small l) := Lib.hid ⟨by rw [← HN.out]; omega, by rw [← HN.out]; exact hs.out⟩
          go_wp2_with fail
          go_ret
          exact ⟨⟨_, rfl, .inr ⟨by omega, hs2.out⟩⟩, rfl⟩

theorem own_store' {B g n cap j : Nat} {w : World} {l : List ByteArray} (h : w.ownsRow B 9 1 (.slice (some ⟨g, 0, none⟩) n cap) n (l.map Value.string)) (x : ByteArray) :
    (w.setCell ⟨g, j, none⟩ (.string x)).ownsRow B 9 1 (.slice (some ⟨g, 0, none⟩) n cap) n ((l.set j x).map Value.string) := (own_store h x).1

set_option maxHeartbeats 1000000 in
theorem toStringS_any (l : List ByteArray) (v : Value) (w : World) (hr : RStrs w v l) (hlen : l.length ≤ 1048576) :
    Calls Try.prog 24 #[v] w fun e w' => ∃ v', e = .returned v' ∧ OStrs w.heap.size w' v' l ∧ Below w.heap.size w w' := by
  obtain ⟨i0, hi, hz0, hz1, hz2⟩ := info_parts infoS
  obtain ⟨n, hn⟩ : ∃ n, n = l.length := ⟨_, rfl⟩
  have HN := Lib.hid hn
  have hrr := Lib.hid hr
  obtain ⟨a0, cap0, rfl⟩ := hr.slice
  rw [← hn] at hlen ⊢
  rw [← hn] at hrr
  clear hn hr
  go_enter Try.func24, Try.ntmps24
  go_wp2_with (at_make; refine wpList_make_full _ rfl _ _ 23 rfl w.heap.size 9 i0 (.string ByteArray.empty) 1 Try.underlying23 hi hz0 hz1 _ _ _ _ n rfl rfl rfl rfl ?b1 ?b2 ?b3 ?_)
  case b1 => rw [hz2]; omega
  case b2 => unfold maxLen; omega
  case b3 => exact Nat.le_refl _
  intro w1 hown hgrow
  have hb0 : Below w.heap.size w w1 := (Below.refl _ _).grown hgrow (Nat.le_refl _) (fun g hg => by cases hg)
  have hown1 : w1.ownsRow w.heap.size 9 1 (.slice (some ⟨w.heap.size, 0, none⟩) n n) n ((List.replicate n ByteArray.empty).map Value.string) := by
    rw [toList_madeCells_one, ← List.map_replicate] at hown; exact hown
  clear hown hgrow
  go_wp2_with fail
  go_loopw [4] (fun iv wr => ∃ (k : Nat) (l' : List ByteArray), k ≤ n ∧ iv = .int .i64 k ∧ Hid (l'.length = n ∧ ∀ i, i < k → nth l' i = nth l i) ∧ wr.ownsRow w.heap.size 9 1 (.slice (some ⟨w.heap.size, 0, none⟩) n n) n (l'.map Value.string) ∧ Below w.heap.size w wr) (fun iv _ => n - (intOf iv).toNat)
  case atStart => exact ⟨0, _, Nat.zero_le _, rfl, Lib.hid ⟨List.length_replicate, fun i h => absurd h (by omega)⟩, hown1, hb0⟩
  case round =>
    obtain ⟨k, l', hk, rfl, hinv, hown, hbel⟩ := hrel
    by_cases hlt : k < n
    · rcases hrr.out with ⟨hz, _⟩ | ⟨hpos, b1, o1, c1, hvv, hb1, hc1⟩
      · rw [hz] at HN; have := HN.out; simp at this; omega
      · rw [← HN.out] at hvv hc1
        simp only [Value.slice.injEq] at hvv
        obtain ⟨rfl, _, rfl⟩ := hvv
        have hx := (hbel.cell (p := ⟨b1, o1 + k, none⟩) hb1).trans (hc1 k hlt)
        obtain ⟨x, HX⟩ : ∃ x, Hid (nth l k = x) := ⟨_, Lib.hid rfl⟩
        rw [HX.out] at hx
        have hc2 := own_cell hown hinv.out.1 hlt
        have hf2 := World.ownsRow.frozenAt hown k
        obtain ⟨ho3, hg3⟩ := own_store (j := k) hown x
        have HO := Lib.hid ho3
        have hb3 := Lib.hid (hbel.setCell (p := ⟨w.heap.size, k, none⟩) (Nat.le_refl _) (.string x))
        have hn2 : Hid ((l'.set k x).length = n ∧ ∀ i, i < k + 1 → nth (l'.set k x) i = nth l i) := Lib.hid ⟨by rw [List.length_set]; exact hinv.out.1, fun i hi => by
          by_cases e : i = k
          · subst e; rw [nth_set_same (by rw [hinv.out.1]; exact hlt), HX.out]
          · rw [nth_set_other (by rw [hinv.out.1]; omega) e]; exact hinv.out.2 i (by omega)⟩
        clear hc1 hown ho3 hg3 hinv
        go_wp2_with fail
        go_roundw
        case rel => exact ⟨k + 1, _, by omega, by go_num, hn2, HO.out, hb3.out⟩
        case measure => simp [intOf]; omega
    · obtain rfl : k = n := by omega
      have he : Hid (l' = l) := Lib.hid (nth_ext (by rw [hinv.out.1]; exact HN.out) (fun i hi => hinv.out.2 i (by rw [← hinv.out.1]; exact hi)))
      go_wp2_with fail
      go_ret
      exact ⟨_, rfl, by unfold OStrs; rw [← HN.out, ← he.out]; exact hown, hbel⟩
end Go.Proofs.Ytadlelcckalcoaa
