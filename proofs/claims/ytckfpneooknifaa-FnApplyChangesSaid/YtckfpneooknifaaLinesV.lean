/- Contracts: lines are told by both sides (validLines). -/
import Derived.Test.YtckfpneooknifaaPkB
import Derived.Test.YtckfpneooknifaaValid
namespace Go.Proofs.Ytckfpneooknifaa
open Go.RowKit
set_option maxRecDepth 100000

theorem RStrs.at {w wr : World} {a : Option Addr} {cap n : Nat} {l : List ByteArray} (h : RStrs w (.slice a n cap) l) (hn : n = l.length) (hb : Below w.heap.size w wr) {k : Nat} (hk : k < n) :
    ∃ b o, a = some ⟨b, o, none⟩ ∧ wr.cell? ⟨b, o + k, none⟩ = some (.string (nth l k)) := by
  rcases h with ⟨hz, _⟩ | ⟨hpos, b1, o1, c1, hvv, hb1, hc1⟩
  · rw [hz] at hn; simp at hn; omega
  · simp only [Value.slice.injEq] at hvv
    obtain ⟨rfl, _, rfl⟩ := hvv
    exact ⟨b1, o1, rfl, (hb.cell (p := ⟨b1, o1 + k, none⟩) hb1).trans (hc1 k (by omega))⟩

set_option maxHeartbeats 1000000 in
theorem svalidLines_any (l : List ByteArray) (v : Value) (w : World) (hr : RStrs w v l) (hlen : l.length ≤ maxLen) (hsz : ∀ i, i < l.length → (nth l i).size ≤ maxLen) :
    Calls Try.prog 65 #[v] w fun e w' => e = .returned (.bool (pl.validLs l)) ∧ w = w' := by
  have hlen' := hlen
  unfold maxLen at hlen'
  obtain ⟨n, hn⟩ : ∃ n, n = l.length := ⟨_, rfl⟩
  have HN := Lib.hid hn
  have HSZ := Lib.hid hsz
  have hrr := Lib.hid hr
  obtain ⟨a0, cap0, rfl⟩ := hr.slice
  rw [← hn] at hlen' hrr ⊢
  clear hn hr hlen hsz
  go_enter Try.func65, Try.ntmps65
  go_wp2_with fail
  go_loop [3] (fun iv => ∃ k : Nat, k ≤ n ∧ iv = .int .i64 k ∧ Hid (pl.okTo l k)) (fun iv => n - (intOf iv).toNat)
  case atStart => exact ⟨0, Nat.zero_le _, rfl, Lib.hid (pl.okTo_zero l)⟩
  case round =>
    obtain ⟨k, hk, rfl, hok⟩ := hrel
    by_cases hlt : k < n
    · obtain ⟨b1, o1, rfl, hx⟩ := hrr.out.at HN.out (Below.refl _ _) hlt
      have hxm := HSZ.out k (by rw [← HN.out]; exact hlt)
      obtain ⟨x, HX⟩ : ∃ x, Hid (nth l k = x) := ⟨_, Lib.hid rfl⟩
      rw [HX.out] at hx hxm
      by_cases hp : pl.validT x.data.toList = true
      · have hn2 := Lib.hid (pl.okTo_succ hok.out (by rw [HX.out]; exact hp))
        go_wp2_with fail
        refine (svalidText_any x _ hxm).mono ?_
        rintro e w' ⟨rfl, rfl⟩
        go_wp2_with fail
        go_round
        case rel => exact ⟨k + 1, by omega, by go_num, hn2⟩
        case measure => simp [intOf]; omega
      · have hp' : pl.validT x.data.toList = false := by simpa using hp
        have hb := Lib.hid (pl.validLs_bad (ls := l) (k := k) (by rw [← HN.out]; exact hlt) (by rw [HX.out]; exact hp'))
        clear hp
        go_wp2_with fail
        refine (svalidText_any x _ hxm).mono ?_
        rintro e w' ⟨rfl, rfl⟩
        go_wp2_with fail
        go_ret
        exact ⟨ret_b hb.out.symm, rfl⟩
    · obtain rfl : k = n := by omega
      have hb := Lib.hid (pl.validLs_all (ls := l) (by rw [← HN.out]; exact hok.out))
      go_wp2_with fail
      go_ret
      exact ⟨ret_b (by rw [hb.out, ← HN.out]; exact decide_eq_decide.2 (by omega)), rfl⟩

set_option maxHeartbeats 1000000 in
theorem ivalidLines_any (l : List ByteArray) (v : Value) (w : World) (hr : RStrs w v l) (hlen : l.length ≤ maxLen) (hsz : ∀ i, i < l.length → (nth l i).size ≤ maxLen) :
    Calls Try.prog 63 #[v] w fun e w' => e = .returned (.bool (pl.validLs l)) ∧ Below w.heap.size w w' := by
  have hlen' := hlen
  unfold maxLen at hlen'
  obtain ⟨n, hn⟩ : ∃ n, n = l.length := ⟨_, rfl⟩
  have HN := Lib.hid hn
  have HSZ := Lib.hid hsz
  have hrr := Lib.hid hr
  obtain ⟨a0, cap0, rfl⟩ := hr.slice
  rw [← hn] at hlen' hrr ⊢
  clear hn hr hlen hsz
  by_cases hbig : 20 < n
  · have hb : Hid (pl.validLs l = false) := Lib.hid (pl.validLs_long (by rw [← HN.out]; exact hbig))
    go_enter Try.func63, Try.ntmps63
    go_wp2_with fail
    go_ret
    exact ⟨ret_b hb.out.symm, Below.refl _ _⟩
  · go_enter Try.func63, Try.ntmps63
    go_wp2_with fail
    go_loopw [10] (fun iv wr => ∃ k : Nat, k ≤ n ∧ iv = .int .i64 k ∧ Hid (pl.okTo l k) ∧ Below w.heap.size w wr) (fun iv _ => n - (intOf iv).toNat)
    case atStart => exact ⟨0, Nat.zero_le _, rfl, Lib.hid (pl.okTo_zero l), Below.refl _ _⟩
    case round =>
      obtain ⟨k, hk, rfl, hok, hbel⟩ := hrel
      by_cases hlt : k < n
      · obtain ⟨b1, o1, rfl, hx⟩ := hrr.out.at HN.out hbel hlt
        have hxm := HSZ.out k (by rw [← HN.out]; exact hlt)
        obtain ⟨x, HX⟩ : ∃ x, Hid (nth l k = x) := ⟨_, Lib.hid rfl⟩
        rw [HX.out] at hx hxm
        by_cases hp : pl.validT x.data.toList = true
        · have hn2 := Lib.hid (pl.okTo_succ hok.out (by rw [HX.out]; exact hp))
          go_wp2_with fail
          refine (iValidText_any x _ hxm).mono ?_
          rintro e w' ⟨rfl, hb2⟩
          have hb3 := Lib.hid (hbel.trans (hb2.mono hbel.size))
          go_wp2_with fail
          go_roundw
          case rel => exact ⟨k + 1, by omega, by go_num, hn2, hb3.out⟩
          case measure => simp [intOf]; omega
        · have hp' : pl.validT x.data.toList = false := by simpa using hp
          have hb := Lib.hid (pl.validLs_bad (ls := l) (k := k) (by rw [← HN.out]; exact hlt) (by rw [HX.out]; exact hp'))
          clear hp
          go_wp2_with fail
          refine (iValidText_any x _ hxm).mono ?_
          rintro e w' ⟨rfl, hb2⟩
          have hb3 := Lib.hid (hbel.trans (hb2.mono hbel.size))
          go_wp2_with fail
          go_ret
          exact ⟨ret_b hb.out.symm, hb3.out⟩
      · obtain rfl : k = n := by omega
        have hb := Lib.hid (pl.validLs_all (ls := l) (by rw [← HN.out]; exact hok.out))
        go_wp2_with fail
        go_ret
        exact ⟨ret_b (by rw [hb.out, ← HN.out]; exact (decide_eq_true (by omega)).symm), hbel⟩
end Go.Proofs.Ytckfpneooknifaa
