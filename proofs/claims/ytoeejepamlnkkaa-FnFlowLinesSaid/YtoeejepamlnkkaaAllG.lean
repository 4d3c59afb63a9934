/- Contracts: the laws' allWords of any lines, and equal lists compared. -/
import Derived.Test.YtoeejepamlnkkaaWords
import Derived.Test.YtoeejepamlnkkaaLinesV
import Derived.Test.YtoeejepamlnkkaaEq
import Derived.Laws.AppendOwnNone
namespace Go.Proofs.Ytoeejepamlnkkaa.pl
def wTo (l : List ByteArray) (k : Nat) : List ByteArray := ((l.take k).map wordsOf).flatten
theorem wTo_zero (l : List ByteArray) : wTo l 0 = [] := rfl
theorem wTo_succ {l : List ByteArray} {k : Nat} {x : ByteArray} (h : k < l.length) (hx : nth l k = x) : wTo l k ++ wordsOf x = wTo l (k + 1) := by
  subst hx
  unfold wTo
  rw [List.take_succ_eq_append_getElem h, List.map_append, List.flatten_append, nth_eq h]; simp
theorem wTo_len (l : List ByteArray) : ∀ k, k ≤ l.length → (wTo l k).length ≤ 120 * k
  | 0, _ => Nat.le_refl _
  | k + 1, h => by
    rw [← wTo_succ (by omega) rfl, List.length_append]
    have := wTo_len l k (by omega)
    have := wordsOf_len (nth l k)
    omega
end Go.Proofs.Ytoeejepamlnkkaa.pl
namespace Go.Proofs.Ytoeejepamlnkkaa
open Go.RowKit
set_option maxRecDepth 100000

theorem equalTexts_self (l : List ByteArray) (va vb : Value) (w : World) (hA : RStrs w va l) (hB : RStrs w vb l) (hl : l.length ≤ 2000000) :
    Calls Try.prog 14 #[va, vb] w fun e w' => e = .returned (.bool true) ∧ Below w.heap.size w w' :=
  (equalTexts_any l l va vb w hA hB hl).mono fun e w' ⟨h1, h2⟩ => ⟨by rw [h1]; simp, h2⟩
theorem OStrs.catG {B : Nat} {w' : World} {v' : Value} {l l2 : List ByteArray} (h : w'.ownsRow B 9 1 v' (l.length + l2.length) (l.map Value.string ++ l2.map Value.string)) : OStrs B w' v' (l ++ l2) := by
  unfold OStrs
  simpa using h

set_option maxHeartbeats 2000000 in
theorem allWordsG_any (l : List ByteArray) (v : Value) (w : World) (hr : RStrs w v l) (hlen : l.length ≤ 1000) (hsz : ∀ i, i < l.length → (nth l i).size ≤ 1048576) :
    Calls Try.prog 17 #[v] w fun e w' => ∃ v', e = .returned v' ∧ OStrs w.heap.size w' v' (pl.wTo l l.length) ∧ Below w.heap.size w w' := by
  obtain ⟨i0, hi, hz0, hz1, hz2⟩ := info_parts infoS
  obtain ⟨n, hn⟩ : ∃ n, n = l.length := ⟨_, rfl⟩
  have HN := Lib.hid hn
  have HSZ := Lib.hid hsz
  have hrr := Lib.hid hr
  obtain ⟨a0, cap0, rfl⟩ := hr.slice
  rw [← hn] at hlen hrr ⊢
  clear hn hr hsz
  go_enter Try.func17, Try.ntmps17
  go_wp2_with fail
  go_loopw [3, 4] (fun ov iv wr => ∃ (k : Nat), k ≤ n ∧ iv = .int .i64 k ∧ OStrs w.heap.size wr ov (pl.wTo l k) ∧ Below w.heap.size w wr) (fun _ iv _ => n - (intOf iv).toNat)
  case atStart => exact ⟨0, Nat.zero_le _, rfl, World.ownsRow_made _ _ _ (Nat.le_refl _) (by unfold maxLen; omega) rfl, (Below.refl _ _).alloc (Nat.le_refl _) _⟩
  case round =>
    obtain ⟨k, hk, rfl, hown, hbel⟩ := hrel
    by_cases hlt : k < n
    · have hkl : Hid (k < l.length) := Lib.hid (by rw [← HN.out]; exact hlt)
      obtain ⟨b1, o1, rfl, hx⟩ := hrr.out.at HN.out hbel hlt
      have hxm := HSZ.out k hkl.out
      obtain ⟨x, HX⟩ : ∃ x, Hid (nth l k = x) := ⟨_, Lib.hid rfl⟩
      rw [HX.out] at hx hxm
      have hst := Lib.hid (pl.wTo_succ hkl.out HX.out)
      have hal := pl.wTo_len l k (by have := hkl.out; omega)
      have hwl := pl.wordsOf_len x
      have HO := Lib.hid hown
      have HB := Lib.hid hbel
      clear hown hbel
      go_wp2_with fail
      refine (iWordsOf_any x _ (by unfold maxLen; omega)).mono ?_
      rintro e wr2 ⟨vw, rfl, how, hbw⟩
      have HO2 := Lib.hid (HO.out.below (Nat.le_refl _) hbw)
      have HB2 := Lib.hid (HB.out.trans (hbw.mono HB.out.size))
      have hsz2 := HB2.out.size
      obtain ⟨W, HW⟩ : ∃ W, Hid (pl.wordsOf x = W) := ⟨_, Lib.hid rfl⟩
      rw [HW.out] at how hwl hst
      clear hbw hx
      have how2 := how
      rcases how2.2 with ⟨rfl, hn0⟩ | ⟨g, cap, cur, rfl, hB, hg, hle, hm, hs, htake⟩
      · have hW0 : W = [] := List.length_eq_zero_iff.1 hn0
        rw [hW0, List.append_nil] at hst
        clear how how2 hn0
        go_wp2_with (at_builtin; refine wpList_append_own_none rfl _ _ 23 rfl w.heap.size 9 i0 1 Try.underlying23 hi _ _ _ rfl HO2.out rfl ?_)
        have hown1 := HO2.out
        rw [hst.out] at hown1
        go_wp2
        go_roundw
        case rel => exact ⟨k + 1, by omega, by go_num, hown1, HB2.out⟩
        case measure => simp [intOf]; omega
      · have HC : Hid (∀ j u, (W.map Value.string)[j]? = some u → wr2.cell? ((⟨g, 0, none⟩ : Addr).add j) = some u) := Lib.hid (fun j u hu => by
          have hadd : (⟨g, 0, none⟩ : Addr).add j = ⟨g, j, none⟩ := by unfold Addr.add; split <;> simp_all
          have hj : j < W.length := by
            have := (List.getElem?_eq_some_iff.1 hu).1
            simpa using this
          rw [hadd, World.ownsRow.cellAt how j (by omega)]
          exact hu)
        clear how how2 hg hs htake
        go_wp2_with (at_builtin; refine wpList_append_own _ rfl _ _ 23 rfl w.heap.size 9 i0 (.string ByteArray.empty) 1 16 Try.underlying23 hi hz0 hz1 hz2 rfl (by decide) _ _ _ rfl HO2.out ⟨g, 0, none⟩ W.length cap (W.map Value.string) rfl (by simp) HC.out ?cA2 ?cA3 ?cA4 ?cA5 ?_)
        case cA2 => intro u hu; rw [List.mem_map] at hu; obtain ⟨s, _, rfl⟩ := hu; rfl
        case cA3 => unfold maxLen; omega
        case cA4 => omega
        case cA5 => omega
        intro v' w1 hown' hgrow _
        have hb1 : Below w.heap.size w w1 := HB2.out.grown hgrow hsz2 (fun k hk => (World.ownsRow.lt HO2.out k hk).1)
        have hown1 := OStrs.catG hown'
        rw [hst.out] at hown1
        clear hown' hgrow
        go_wp2
        go_roundw
        case rel => exact ⟨k + 1, by omega, by go_num, hown1, hb1⟩
        case measure => simp [intOf]; omega
    · obtain rfl : k = n := by omega
      go_wp2_with fail
      go_ret
      exact ⟨_, rfl, hown, hbel⟩

set_option maxHeartbeats 1000000 in
theorem longestG_any (es : List ByteArray) (wd : Int) (v : Value) (w : World) (hr : RStrs w v es) (hlen : es.length ≤ 1000) (h0 : 0 ≤ wd) (hs : ∀ i, i < es.length → ((nth es i).size : Int) ≤ wd) :
    Calls Try.prog 18 #[v] w fun e w' => (∃ m : Int, e = .returned (.int .i64 m) ∧ m ≤ wd) ∧ w = w' := by
  obtain ⟨n, hn⟩ : ∃ n, n = es.length := ⟨_, rfl⟩
  have HN := Lib.hid hn
  have HS := Lib.hid hs
  have hrr := Lib.hid hr
  obtain ⟨a0, cap0, rfl⟩ := hr.slice
  rw [← hn] at hrr hlen ⊢
  clear hn hr hs
  go_enter Try.func18, Try.ntmps18
  go_wp2_with fail
  go_loop [3, 4] (fun ov iv => ∃ (k : Nat) (o : Int), k ≤ n ∧ iv = .int .i64 k ∧ ov = .int .i64 o ∧ 0 ≤ o ∧ o ≤ wd) (fun _ iv => n - (intOf iv).toNat)
  case atStart => exact ⟨0, 0, Nat.zero_le _, rfl, rfl, by omega, h0⟩
  case round =>
    obtain ⟨k, o, hk, rfl, rfl, ho0, ho1⟩ := hrel
    by_cases hlt : k < n
    · obtain ⟨b1, o1, rfl, hx⟩ := hrr.out.at HN.out (Below.refl _ _) hlt
      obtain ⟨x, HX⟩ : ∃ x, Hid (nth es k = x) := ⟨_, Lib.hid rfl⟩
      have hxs := HS.out k (by rw [← HN.out]; exact hlt)
      rw [HX.out] at hx hxs
      go_wp2_with fail
      go_round
      case rel => exact ⟨k + 1, max o (x.size : Int), by omega, by go_num, by first | rfl | go_num, by omega, by omega⟩
      case measure => simp [intOf]; omega
    · obtain rfl : k = n := by omega
      go_wp2_with fail
      go_ret
      exact ⟨⟨o, rfl, ho1⟩, rfl⟩
end Go.Proofs.Ytoeejepamlnkkaa
