/- Contracts: words, WordsOf of both sides. -/
import Derived.Test.YtadlelcckalcoaaValid
import Derived.Test.YtadlelcckalcoaaPkB
import Derived.Test.YtadlelcckalcoaaPkA
namespace Go.Proofs.Ytadlelcckalcoaa
open Go.RowKit
set_option maxRecDepth 100000

/-- behind one more append -/
theorem OStrs.push {B : Nat} {w' : World} {v' : Value} {l : List (List UInt8)} {x : ByteArray} {y : List UInt8} (hx : x = pl.bs y) (h : w'.ownsRow B 9 1 v' (l.length + 1) (l.map (Value.string ∘ pl.bs) ++ [.string x])) : OStrs B w' v' ((l ++ [y]).map pl.bs) := by
  unfold OStrs
  subst hx
  simpa using h

set_option maxHeartbeats 1000000 in
theorem swords_any (s : ByteArray) (w : World) (hs : s.size ≤ 120) :
    Calls Try.prog 52 #[.string s] w fun e w' => ∃ v, e = .returned v ∧ OStrs w.heap.size w' v (pl.wordsB s) ∧ Below w.heap.size w w' := by
  obtain ⟨i0, hi, hz0, hz1, hz2⟩ := info_parts infoS
  go_enter Try.func52, Try.ntmps52
  go_wp2
  go_loopw [3, 4, 5] (fun v f i wr => ∃ (k : Nat) (done : List (List UInt8)) (fr : Int), k ≤ s.size ∧ i = .int .i64 k ∧ f = .int .i64 fr ∧ pl.WInv s done fr k ∧ OStrs w.heap.size wr v (done.map pl.bs) ∧ Below w.heap.size w wr)
    (fun _ _ i _ => s.size - (intOf i).toNat)
  case atStart => exact ⟨0, [], -1, Nat.zero_le _, rfl, rfl, pl.winv_start s, World.ownsRow_made _ _ _ (Nat.le_refl _) (by unfold maxLen; omega) rfl, (Below.refl _ _).alloc (Nat.le_refl _) _⟩
  case round =>
    obtain ⟨k, done, fr, hk, rfl, rfl, hinv, hown, hbel⟩ := hrel
    by_cases hlt : k < s.size
    · rcases pl.winv_from hinv with rfl | ⟨j, rfl, hjk⟩
      · by_cases hc : s[k] = 32
        · have hn := pl.winv_skip hinv hlt hc
          have h1 : (s[k].toNat : Int) = 32 := by rw [hc]; rfl
          clear hinv hc
          go_wp2
          go_roundw
          case rel => exact ⟨k + 1, done, -1, by omega, by go_num, rfl, hn, hown, hbel⟩
          case measure => simp [intOf]; omega
        · have hn := pl.winv_begin hinv hlt hc
          have h1 : ¬ (s[k].toNat : Int) = 32 := pl.byte_ne hc
          clear hinv hc
          go_wp2
          go_roundw
          case rel => exact ⟨k + 1, done, k, by omega, by go_num, rfl, hn, hown, hbel⟩
          case measure => simp [intOf]; omega
      · by_cases hc : s[k] = 32
        · have hn := (pl.winv_end hinv hlt hc).2
          have hlen : done.length ≤ k := hinv.1
          have h1 : (s[k].toNat : Int) = 32 := by rw [hc]; rfl
          clear hinv hc
          go_wp2_with (at_builtin; refine wpList_append_own _ rfl _ _ 23 rfl w.heap.size 9 i0 (.string ByteArray.empty) 1 16 Try.underlying23 hi hz0 hz1 hz2 rfl (by decide) _ _ _ rfl (World.ownsRow.alloc hown _) ⟨wr.heap.size, 0, none⟩ 1 1 [.string (s.extract j k)] rfl rfl ?c1 ?c2 ?c3 ?c4 ?c5 ?_)
          case c1 => exact cell_one_new _ _ _
          case c2 => intro u hu; simp at hu; subst hu; rfl
          case c3 => simp; unfold maxLen; omega
          case c4 => simp; omega
          case c5 => have := hbel.size; simp; omega
          intro v' w1 hown' hgrow _
          have hb1 : Below w.heap.size w w1 := (hbel.alloc hbel.size _).grown hgrow (by have := hbel.size; simp; omega) (fun g hg => (World.ownsRow.lt hown g hg).1)
          have hown1 := OStrs.push (pl.ex_bs s j k) hown'
          clear hown' hgrow hown hbel
          go_wp2
          go_roundw
          case rel => exact ⟨k + 1, _, -1, by omega, by go_num, rfl, hn, hown1, hb1⟩
          case measure => simp [intOf]; omega
        · have hn := pl.winv_grow hinv hlt hc
          have h1 : ¬ (s[k].toNat : Int) = 32 := pl.byte_ne hc
          clear hinv hc
          go_wp2
          go_roundw
          case rel => exact ⟨k + 1, done, j, by omega, by go_num, rfl, hn, hown, hbel⟩
          case measure => simp [intOf]; omega
    · obtain rfl : k = s.size := by omega
      rcases pl.winv_from hinv with rfl | ⟨j, rfl, hjk⟩
      · have hd := pl.winv_done hinv
        subst hd
        clear hinv
        go_wp2
        go_ret
        exact ⟨_, rfl, hown, hbel⟩
      · have hlen : done.length ≤ s.size := hinv.1
        have hl := pl.winv_last hinv
        clear hinv
        go_wp2_with (at_builtin; refine wpList_append_own _ rfl _ _ 23 rfl w.heap.size 9 i0 (.string ByteArray.empty) 1 16 Try.underlying23 hi hz0 hz1 hz2 rfl (by decide) _ _ _ rfl (World.ownsRow.alloc hown _) ⟨wr.heap.size, 0, none⟩ 1 1 [.string (s.extract j s.size)] rfl rfl ?d1 ?d2 ?d3 ?d4 ?d5 ?_)
        case d1 => exact cell_one_new _ _ _
        case d2 => intro u hu; simp at hu; subst hu; rfl
        case d3 => simp; unfold maxLen; omega
        case d4 => simp; omega
        case d5 => have := hbel.size; simp; omega
        intro v' w1 hown' hgrow _
        have hb1 : Below w.heap.size w w1 := (hbel.alloc hbel.size _).grown hgrow (by have := hbel.size; simp; omega) (fun g hg => (World.ownsRow.lt hown g hg).1)
        have hown1 := OStrs.push (pl.ex_bs s j s.size) hown'
        rw [hl] at hown1
        clear hown' hgrow hown hbel hl
        go_wp2
        go_ret
        exact ⟨_, rfl, hown1, hb1⟩

set_option maxHeartbeats 400000 in
theorem appendWord_any (B : Nat) (v : Value) (done : List (List UInt8)) (x : ByteArray) (y : List UInt8) (w : World) (hx : x = pl.bs y) (hlen : done.length ≤ 1000) (hB : B ≤ w.heap.size) (hown : OStrs B w v (done.map pl.bs)) :
    Calls Try.prog 55 #[v, .string x] w fun e w' => ∃ v', e = .returned v' ∧ OStrs B w' v' ((pl.addW done y).map pl.bs) ∧ Below B w w' := by
  obtain ⟨i0, hi, hz0, hz1, hz2⟩ := info_parts infoS
  by_cases hy : y = []
  · have hadd := Lib.hid (pl.addW_nil done hy)
    have hx0 : x.toList.isEmpty = true := by rw [hx, hy, Lib.toList_data, pl.bs_data]; rfl
    clear hx hy
    go_enter Try.func55, Try.ntmps55
    go_wp2
    go_ret
    exact ⟨_, rfl, by rw [hadd.out]; exact hown, Below.refl _ _⟩
  · have hadd := Lib.hid (pl.addW_cons done hy)
    have hx0 : x.toList.isEmpty = false := by
      rw [hx]; cases y with
      | nil => exact absurd rfl hy
      | cons a r => rw [Lib.toList_data, pl.bs_data]; rfl
    have hx' := Lib.hid hx
    clear hx hy
    go_enter Try.func55, Try.ntmps55
    go_wp2_with (at_builtin; refine wpList_append_own _ rfl _ _ 23 rfl B 9 i0 (.string ByteArray.empty) 1 16 Try.underlying23 hi hz0 hz1 hz2 rfl (by decide) _ _ _ rfl (World.ownsRow.alloc hown _) ⟨w.heap.size, 0, none⟩ 1 1 [.string x] rfl rfl ?c1 ?c2 ?c3 ?c4 ?c5 ?_)
    case c1 => exact cell_one_new _ _ _
    case c2 => intro u hu; simp at hu; subst hu; rfl
    case c3 => simp; unfold maxLen; omega
    case c4 => simp; omega
    case c5 => simp; omega
    intro v' w1 hown' hgrow _
    have hb1 : Below B w w1 := ((Below.refl _ _).alloc hB _).grown hgrow (by simp; omega) (fun g hg => (World.ownsRow.lt hown g hg).1)
    have hown1 := OStrs.push hx'.out hown'
    clear hown' hgrow hown
    go_wp2
    go_ret
    exact ⟨_, rfl, by rw [hadd.out]; exact hown1, hb1⟩

set_option maxHeartbeats 1000000 in
theorem iWordsOf_any (s : ByteArray) (w : World) (hs : s.size ≤ maxLen) :
    Calls Try.prog 15 #[.string s] w fun e w' => ∃ v, e = .returned v ∧ OStrs w.heap.size w' v (pl.wordsOf s) ∧ Below w.heap.size w w' := by
  by_cases hv : pl.validT s.data.toList = true
  · have hsz := pl.validT_size hv
    have hall := Lib.hid (pl.validT_allTo hv)
    have hw := Lib.hid (pl.wordsOf_ok hv)
    go_enter Try.func15, Try.ntmps15
    go_wp2_with (go_at_call 54; refine (iValidText_any _ _ hs).mono ?_; rintro e w1 ⟨rfl, hb0⟩)
    have hsize := hb0.size
    go_loopw [3, 4] (fun v st wr => ∃ (k j : Nat) (done : List (List UInt8)), st = .int .i64 j ∧ k ≤ s.size ∧ pl.VInv s done j k ∧ wr.heap[w1.heap.size]? = some (.stringIter s k) ∧ OStrs (w1.heap.size + 1) wr v (done.map pl.bs) ∧ Below w.heap.size w wr ∧ w1.heap.size < wr.heap.size)
      (fun _ _ wr => s.size - wr.iterPos w1.heap.size)
    case atStart => exact ⟨0, 0, [], rfl, Nat.zero_le _, pl.vinv_start s, World.iter_heap _ _ _, OStrs.nil _ _, hb0.alloc hsize _, by simp [World.iter]⟩
    case round =>
      obtain ⟨k, j, done, rfl, hk, hinv, hit, hown, hbel, hlt1⟩ := hrel
      by_cases hlt : k < s.size
      · have hpl := hall.out k hlt hlt
        have hnx : ∀ ty, (Instr.next (.pointer (some ⟨w1.heap.size, 0, none⟩)) true ty).run Try.prog wr = _ := fun ty => Lib.run_next_ascii_at wr w1.heap.size s k ty hit hlt (by have := pl.plainB_lt hpl; omega)
        have hjk : j ≤ k := hinv.2.1
        have hlen : done.length ≤ k := hinv.1
        by_cases hc : s[k] = 32
        · have hn := Lib.hid (pl.vinv_end hinv hlt hc)
          have h1 : (s[k].toNat : Int) = 32 := by rw [hc]; rfl
          have hit' := Lib.hid (Lib.iterAt_heap wr w1.heap.size s k (k + 1) hit)
          have hown' := Lib.hid (show OStrs (w1.heap.size + 1) (wr.iterAt w1.heap.size s (k + 1)) _ _ from ownsRow_iterAt hown (by omega) s (k + 1))
          have hbel' := Lib.hid (Lib.below_iterAt hbel hsize s (k + 1))
          have hpos := Lib.hid (iterPos_of hit)
          clear hinv hc hpl hit hown hbel
          go_wp2_with (go_at_call 55; refine (appendWord_any (w1.heap.size + 1) _ done _ _ _ (pl.ex_bs s j k) (by omega) (by rw [Lib.iterAt_size]; omega) hown'.out).mono ?_; rintro e w2 ⟨v', rfl, hown2, hb2⟩)
          go_roundw
          case rel => exact ⟨k + 1, k + 1, _, by go_num, by omega, hn.out, by rw [hb2.block _ (by omega)]; exact hit'.out, hown2, hbel'.out.trans (hb2.mono (by omega)), by have := hb2.size; rw [Lib.iterAt_size] at this; omega⟩
          case measure =>
            rw [hpos.out, iterPos_of (p := k + 1) (by rw [hb2.block _ (by omega)]; exact hit'.out)]; omega
        · have hn := Lib.hid (pl.vinv_grow hinv hlt hc)
          have h1 : ¬ (s[k].toNat : Int) = 32 := pl.byte_ne hc
          have hit' := Lib.hid (Lib.iterAt_heap wr w1.heap.size s k (k + 1) hit)
          have hown' := Lib.hid (show OStrs (w1.heap.size + 1) (wr.iterAt w1.heap.size s (k + 1)) _ _ from ownsRow_iterAt hown (by omega) s (k + 1))
          have hbel' := Lib.hid (Lib.below_iterAt hbel hsize s (k + 1))
          have hpos := Lib.hid (iterPos_of hit)
          clear hinv hc hpl hit hown hbel
          go_wp2
          go_roundw
          case rel => exact ⟨k + 1, j, _, rfl, by omega, hn.out, hit'.out, hown'.out, hbel'.out, by rw [Lib.iterAt_size]; omega⟩
          case measure =>
            rw [hpos.out, iterPos_of hit'.out]; omega
      · obtain rfl : k = s.size := by omega
        have hnx : ∀ ty, (Instr.next (.pointer (some ⟨w1.heap.size, 0, none⟩)) true ty).run Try.prog wr = _ := fun ty => Lib.run_next_end_at wr w1.heap.size s s.size ty hit hlt
        have hn := Lib.hid (pl.vinv_last hinv)
        have hjk : j ≤ s.size := hinv.2.1
        have hlen : done.length ≤ s.size := hinv.1
        clear hinv hit
        go_wp2_with (go_at_call 55; refine (appendWord_any (w1.heap.size + 1) _ done _ _ _ (pl.ex_bs s j s.size) (by omega) (by omega) hown).mono ?_; rintro e w2 ⟨v', rfl, hown2, hb2⟩)
        go_ret
        exact ⟨_, rfl, by rw [hw.out, pl.wordsB_eq hn.out]; exact OStrs.mono hown2 (by omega), hbel.trans (hb2.mono (by omega))⟩
  · have hv' : pl.validT s.data.toList = false := by simpa using hv
    have hw := Lib.hid (pl.wordsOf_no hv')
    clear hv
    go_enter Try.func15, Try.ntmps15
    go_wp2_with (go_at_call 54; refine (iValidText_any _ _ hs).mono ?_; rintro e w1 ⟨rfl, hb0⟩)
    go_ret
    exact ⟨_, rfl, by rw [hw.out]; exact OStrs.nil _ _, hb0⟩
end Go.Proofs.Ytadlelcckalcoaa
