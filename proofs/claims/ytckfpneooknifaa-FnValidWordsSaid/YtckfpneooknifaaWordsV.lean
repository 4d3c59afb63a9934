/- Contracts: lists of words, told by both sides. -/
import Derived.Test.YtckfpneooknifaaPkB
import Derived.Test.YtckfpneooknifaaLinesV
import Derived.Test.YtckfpneooknifaaShelfC
import Derived.Lib.IndexLaws
namespace Go.Proofs.Ytckfpneooknifaa
open Go.RowKit
set_option maxRecDepth 100000

namespace pl
theorem has_sp (s : ByteArray) : decide (0 ≤ Lib.indexByte s.data.toList 32) = decide (32 ∈ s.data.toList) := by
  apply decide_eq_decide.2
  have hge := Lib.indexByte_ge s.data.toList 32
  constructor
  · intro h
    obtain ⟨o, ho⟩ : ∃ o : Nat, Lib.indexByte s.data.toList 32 = o := ⟨(Lib.indexByte s.data.toList 32).toNat, by omega⟩
    exact List.mem_of_getElem? (Lib.indexByte_some ho).1
  · intro h
    rcases Int.lt_or_le (Lib.indexByte s.data.toList 32) 0 with h2 | h2
    · exfalso
      have h3 : Lib.indexByte s.data.toList 32 = -1 := by omega
      obtain ⟨k, hk⟩ := List.getElem?_of_mem h
      exact Lib.indexByte_none h3 k hk
    · exact h2
end pl

set_option maxHeartbeats 1000000 in
theorem svalidWords_any (l : List ByteArray) (v : Value) (w : World) (hr : RStrs w v l) (hlen : l.length ≤ maxLen) (hsz : ∀ i, i < l.length → (nth l i).size ≤ maxLen) :
    Calls Try.prog 60 #[v] w fun e w' => e = .returned (.bool (pl.vWords l)) ∧ w = w' := by
  have hlen' := hlen
  unfold maxLen at hlen'
  obtain ⟨n, hn⟩ : ∃ n, n = l.length := ⟨_, rfl⟩
  have HN := Lib.hid hn
  have HSZ := Lib.hid hsz
  have hrr := Lib.hid hr
  obtain ⟨a0, cap0, rfl⟩ := hr.slice
  rw [← hn] at hlen' hrr ⊢
  clear hn hr hlen hsz
  go_enter Try.func60, Try.ntmps60
  go_wp2_with fail
  go_loop [3] (fun iv => ∃ k : Nat, k ≤ n ∧ iv = .int .i64 k ∧ Hid (pl.wordsTo l k)) (fun iv => n - (intOf iv).toNat)
  case atStart => exact ⟨0, Nat.zero_le _, rfl, Lib.hid (pl.wordsTo_zero l)⟩
  case round =>
    obtain ⟨k, hk, rfl, hok⟩ := hrel
    by_cases hlt : k < n
    · obtain ⟨b1, o1, rfl, hx⟩ := hrr.out.at HN.out (Below.refl _ _) hlt
      have hxm := HSZ.out k (by rw [← HN.out]; exact hlt)
      unfold maxLen at hxm
      obtain ⟨x, HX⟩ : ∃ x, Hid (nth l k = x) := ⟨_, Lib.hid rfl⟩
      rw [HX.out] at hx hxm
      by_cases hin : pl.inR x.size 1 12 = true
      · have hb12 : Hid (1 ≤ x.size ∧ x.size ≤ 12) := Lib.hid (by
          unfold pl.inR at hin
          simp only [Bool.and_eq_true, decide_eq_true_eq] at hin
          omega)
        go_wp2_with fail
        refine (inRange_any _ _ _ _).mono ?_
        rintro e w' ⟨rfl, rfl⟩
        rw [hin]
        go_wp2_with fail
        go_loop [4] (fun jv => ∃ j : Nat, j ≤ x.size ∧ jv = .int .i64 j ∧ Hid (pl.wbTo x j)) (fun jv => x.size - (intOf jv).toNat)
        case atStart => exact ⟨0, Nat.zero_le _, rfl, Lib.hid (pl.wbTo_zero x)⟩
        case round =>
          obtain ⟨j, hj, rfl, hall⟩ := hrel
          by_cases hjl : j < x.size
          · have h255 : (x[j].toNat : Int) ≤ 255 := by have := x[j].toNat_lt; omega
            by_cases hp : pl.wb x[j] = true
            · have hi2 : pl.inR (x[j].toNat : Int) 33 126 = true := (pl.wb_int _).trans hp
              have hn2 := Lib.hid (pl.wbTo_succ hall.out hjl hp)
              clear hp
              go_wp2_with fail
              refine (inRange_any _ _ _ _).mono ?_
              rintro e w' ⟨rfl, rfl⟩
              go_wp2_with fail
              go_round
              case rel => exact ⟨j + 1, by omega, by go_num, hn2⟩
              case measure => simp [intOf]; omega
            · have hp' : pl.wb x[j] = false := by simpa using hp
              have hi2 : pl.inR (x[j].toNat : Int) 33 126 = false := (pl.wb_int _).trans hp'
              have hb := Lib.hid (pl.vWords_bad (l := l) (k := k) (by rw [← HN.out]; exact hlt) (by rw [HX.out]; exact pl.wordOK_bad hjl hp'))
              clear hp hp'
              go_wp2_with fail
              refine (inRange_any _ _ _ _).mono ?_
              rintro e w' ⟨rfl, rfl⟩
              go_wp2_with fail
              go_ret
              exact ⟨ret_b hb.out.symm, rfl⟩
          · obtain rfl : j = x.size := by omega
            have hn2 := Lib.hid (pl.wordsTo_succ hok.out (by rw [HX.out]; exact pl.wordOK_yes hb12.out.1 hb12.out.2 hall.out))
            go_wp2_with fail
            go_round
            case rel => exact ⟨k + 1, by omega, by go_num, hn2⟩
            case measure => simp [intOf]; omega
      · have hin' : pl.inR x.size 1 12 = false := by simpa using hin
        have hb := Lib.hid (pl.vWords_bad (l := l) (k := k) (by rw [← HN.out]; exact hlt) (by rw [HX.out]; unfold pl.wordOK; rw [hin']; rfl))
        clear hin
        go_wp2_with fail
        refine (inRange_any _ _ _ _).mono ?_
        rintro e w' ⟨rfl, rfl⟩
        rw [hin']
        go_wp2_with fail
        go_ret
        exact ⟨ret_b hb.out.symm, rfl⟩
    · obtain rfl : k = n := by omega
      have hb := Lib.hid (pl.vWords_all (l := l) (by rw [← HN.out]; exact hok.out))
      go_wp2_with fail
      go_ret
      exact ⟨ret_b (by rw [hb.out, ← HN.out]; exact decide_eq_decide.2 (by omega)), rfl⟩

theorem sValidWords_any (l : List ByteArray) (v : Value) (w : World) (hr : RStrs w v l) (hlen : l.length ≤ maxLen) (hsz : ∀ i, i < l.length → (nth l i).size ≤ maxLen) :
    Calls Try.prog 18 #[v] w fun e w' => e = .returned (.bool (pl.vWords l)) ∧ w = w' := by
  go_enter Try.func18, Try.ntmps18
  go_wp2_with fail
  refine (svalidWords_any l v _ hr hlen hsz).mono ?_
  rintro e w' ⟨rfl, rfl⟩
  go_wp2_with fail
  go_ret
  exact ⟨rfl, rfl⟩

set_option maxHeartbeats 1000000 in
theorem iValidWords_any (l : List ByteArray) (v : Value) (w : World) (hr : RStrs w v l) (hlen : l.length ≤ maxLen) (hsz : ∀ i, i < l.length → (nth l i).size ≤ maxLen) :
    Calls Try.prog 17 #[v] w fun e w' => e = .returned (.bool (pl.vWords l)) ∧ Below w.heap.size w w' := by
  have hlen' := hlen
  unfold maxLen at hlen'
  obtain ⟨n, hn⟩ : ∃ n, n = l.length := ⟨_, rfl⟩
  have HN := Lib.hid hn
  have HSZ := Lib.hid hsz
  have hrr := Lib.hid hr
  obtain ⟨a0, cap0, rfl⟩ := hr.slice
  rw [← hn] at hlen' hrr ⊢
  clear hn hr hlen hsz
  by_cases hbig : 9 < n
  · have hb : Hid (pl.vWords l = false) := Lib.hid (pl.vWords_long (by rw [← HN.out]; exact hbig))
    go_enter Try.func17, Try.ntmps17
    go_wp2_with fail
    go_ret
    exact ⟨ret_b hb.out.symm, Below.refl _ _⟩
  · go_enter Try.func17, Try.ntmps17
    go_wp2_with fail
    go_loopw [10] (fun iv wr => ∃ k : Nat, k ≤ n ∧ iv = .int .i64 k ∧ Hid (pl.wordsTo l k) ∧ Below w.heap.size w wr) (fun iv _ => n - (intOf iv).toNat)
    case atStart => exact ⟨0, Nat.zero_le _, rfl, Lib.hid (pl.wordsTo_zero l), Below.refl _ _⟩
    case round =>
      obtain ⟨k, hk, rfl, hok, hbel⟩ := hrel
      by_cases hlt : k < n
      · obtain ⟨b1, o1, rfl, hx⟩ := hrr.out.at HN.out hbel hlt
        have hxm := HSZ.out k (by rw [← HN.out]; exact hlt)
        have hxm' := hxm
        unfold maxLen at hxm'
        obtain ⟨x, HX⟩ : ∃ x, Hid (nth l k = x) := ⟨_, Lib.hid rfl⟩
        rw [HX.out] at hx hxm hxm'
        have HB : ∀ (_ : pl.wordOK x = false), Hid (pl.vWords l = false) := fun h => Lib.hid (pl.vWords_bad (l := l) (k := k) (by rw [← HN.out]; exact hlt) (by rw [HX.out]; exact h))
        by_cases h0 : x.size = 0
        · have he : x.toList.isEmpty = true := pl.empty_of h0
          have hb := HB (pl.wordOK_size (.inl (by omega)))
          clear h0 HB
          go_wp2_with fail
          go_ret
          exact ⟨ret_b hb.out.symm, hbel⟩
        · have he : x.toList.isEmpty = false := pl.nonempty_of h0
          by_cases h12 : 12 < x.size
          · have hb := HB (pl.wordOK_size (.inr (by omega)))
            clear HB
            go_wp2_with fail
            go_ret
            exact ⟨ret_b hb.out.symm, hbel⟩
          · have hw := Lib.hid (pl.wordOK_text (s := x) (by omega) (by omega))
            by_cases hp : pl.validT x.data.toList = true
            · by_cases hs : 32 ∈ x.data.toList
              · have hb := HB (by rw [hw.out, decide_eq_false (by simpa using hs)]; simp)
                have hd := Lib.hid ((pl.has_sp x).trans (decide_eq_true hs))
                clear HB hs hw
                go_wp2_with fail
                refine (iValidText_any x _ hxm).mono ?_
                rintro e w' ⟨rfl, hb2⟩
                rw [hp]
                have hb3 := Lib.hid (hbel.trans (hb2.mono hbel.size))
                go_wp2_with fail
                refine (Try.strings_Contains_one x 32 _).mono ?_
                rintro e w'' ⟨rfl, rfl⟩
                rw [hd.out]
                go_wp2_with fail
                go_ret
                exact ⟨ret_b hb.out.symm, hb3.out⟩
              · have hn2 := Lib.hid (pl.wordsTo_succ hok.out (k := k) (by rw [HX.out, hw.out, hp, decide_eq_true hs]; rfl))
                have hd := Lib.hid ((pl.has_sp x).trans (decide_eq_false hs))
                clear HB hs hw
                go_wp2_with fail
                refine (iValidText_any x _ hxm).mono ?_
                rintro e w' ⟨rfl, hb2⟩
                rw [hp]
                have hb3 := Lib.hid (hbel.trans (hb2.mono hbel.size))
                go_wp2_with fail
                refine (Try.strings_Contains_one x 32 _).mono ?_
                rintro e w'' ⟨rfl, rfl⟩
                rw [hd.out]
                go_wp2_with fail
                go_roundw
                case rel => exact ⟨k + 1, by omega, by go_num, hn2, hb3.out⟩
                case measure => simp [intOf]; omega
            · have hp' : pl.validT x.data.toList = false := by simpa using hp
              have hb := HB (by rw [hw.out, hp']; rfl)
              clear hp HB hw
              go_wp2_with fail
              refine (iValidText_any x _ hxm).mono ?_
              rintro e w' ⟨rfl, hb2⟩
              rw [hp']
              have hb3 := Lib.hid (hbel.trans (hb2.mono hbel.size))
              go_wp2_with fail
              go_ret
              exact ⟨ret_b hb.out.symm, hb3.out⟩
      · obtain rfl : k = n := by omega
        have hb := Lib.hid (pl.vWords_all (l := l) (by rw [← HN.out]; exact hok.out))
        go_wp2_with fail
        go_ret
        exact ⟨ret_b (by rw [hb.out, ← HN.out]; exact (decide_eq_true (by omega)).symm), hbel⟩
end Go.Proofs.Ytckfpneooknifaa
