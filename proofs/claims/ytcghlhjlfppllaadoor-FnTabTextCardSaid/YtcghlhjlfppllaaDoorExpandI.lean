/- Contract: the program's ExpandTabs. -/
import Derived.Test.YtcghlhjlfppllaaDoorExpand
namespace Go.Proofs.YtcghlhjlfppllaaDoor
open Go.RowKit
set_option maxRecDepth 100000

set_option maxHeartbeats 2000000 in
theorem iExpandTabs_ok (s : ByteArray) (wd : Nat) (w : World) (hs : s.size ≤ maxLen) (hv : pl.tabT s.data.toList = true) (h1 : 1 ≤ wd) (h2 : wd ≤ 12) :
    Calls Tryd.prog 14 #[.string s, .int .i64 wd] w fun e w' => e = .returned (.string (pl.bs (pl.expL wd s.data.toList))) ∧ Below w.heap.size w w' := by
  have hsz := pl.tabT_size hv
  have hall := Lib.hid (pl.tabT_allQ hv)
  go_enter Tryd.func14, Tryd.ntmps14
  go_wp2_with (go_at_call 42; refine (isTabbed_any _ _ hs).mono ?_; rintro e w1 ⟨rfl, hb0⟩)
  have hsize := hb0.size
  have hbel0 : Below w.heap.size w ((w1.alloc (.cells #[.pointer none, .slice none 0 0] 50)).iter s 0) := (hb0.alloc hsize _).alloc (by simp; omega) _
  go_loopw [7] (fun _ wr => ∃ (k : Nat) (o : List UInt8), k ≤ s.size ∧ Hid (o = pl.expTo wd s k) ∧ wr.heap[w1.heap.size + 1]? = some (.stringIter s k) ∧ IsB w1.heap.size w1.heap.size (Lib.byteCells o) wr ∧ Below w.heap.size w wr ∧ w1.heap.size + 1 < wr.heap.size)
    (fun _ wr => s.size - wr.iterPos (w1.heap.size + 1))
  case atStart =>
    refine ⟨0, [], Nat.zero_le _, Lib.hid rfl, ?_, ?_, hbel0, ?_⟩
    · have := World.iter_heap (w1.alloc (.cells #[.pointer none, .slice none 0 0] 50)) s 0
      simpa using this
    · exact IsB.alloc (Lib.fresh_isBuilder 50 5 w1) _
    · simp [World.iter]
  case round =>
    obtain ⟨k, o, hk, ho, hit, hB, hbel, hlt1⟩ := hrel
    have hol : o.length ≤ 1440 := by have := pl.expTo_len h1 h2 s k hk; rw [← ho.out] at this; omega
    have hosz : (pl.bs o).size ≤ 1440 := hol
    by_cases hlt : k < s.size
    · have hpl := hall.out k hlt hlt
      have h127 := pl.tabB_lt hpl
      have hnx : ∀ ty, (Instr.next (.pointer (some ⟨w1.heap.size + 1, 0, none⟩)) true ty).run Tryd.prog wr = _ := fun ty => Lib.run_next_ascii_at wr (w1.heap.size + 1) s k ty hit hlt (by omega)
      have hit' := Lib.hid (Lib.iterAt_heap wr (w1.heap.size + 1) s k (k + 1) hit)
      have hB' := Lib.hid (IsB.iterAt (pos' := k + 1) hB hit)
      have hbel' := Lib.hid (Lib.below_iterAt hbel (show w.heap.size ≤ w1.heap.size + 1 by omega) s (k + 1))
      have hpos := Lib.hid (iterPos_of hit)
      by_cases hc : s[k] = 9
      · have h9 : (s[k].toNat : Int) = 9 := by rw [hc]; rfl
        have hn := Lib.hid ((pl.expTo_succ wd hlt).trans (by rw [← ho.out, pl.extB_nine wd hc]))
        have hwd := Lib.hid (pl.wd_sub (pl.bs o).size h1)
        obtain ⟨hm0, hm1⟩ := pl.mod_bd (pl.bs o).size h1
        have hspz : (pl.spB (wd - (pl.bs o).size % wd)).size ≤ 12 := by rw [pl.spB_size]; omega
        clear hc hpl hit hB hbel
        go_wp2_with fail
        refine (builderLen_any _ _ o _ hB'.out).mono ?_
        rintro e w2 ⟨rfl, rfl⟩
        go_wp2_with fail
        refine (ispaces_at _ _ hwd.out _ (by omega)).mono ?_
        rintro e w2 ⟨rfl, hb2⟩
        have hB2 := Lib.hid (IsB.below hB'.out (Nat.le_refl _) hb2)
        have hs2 := hb2.size
        rw [Lib.iterAt_size] at hs2
        have hit2 := Lib.hid ((hb2.block (w1.heap.size + 1) (by rw [Lib.iterAt_size]; omega)).trans hit'.out)
        have hbel2 := Lib.hid (hbel'.out.trans (hb2.mono (by rw [Lib.iterAt_size]; omega)))
        clear hb2
        go_wp2_with fail
        refine (writeString_any _ _ _ _ _ hB2.out (by rw [Lib.byteCells_length]; omega) (by omega)).mono ?_
        rintro e w3 ⟨rfl, hB3, hb3, hk3, hs3⟩
        rw [cells_spB] at hB3
        have hit3 := Lib.OthersKept.iter hk3 hit2.out (by omega)
        go_wp2_with fail
        go_roundw
        case rel => exact ⟨k + 1, _, by omega, Lib.hid hn.out.symm, hit3, .inr hB3, hbel2.out.trans (hb3.mono (by omega)), by omega⟩
        case measure => rw [hpos.out, iterPos_of hit3]; omega
      · have h9 : ¬ (s[k].toNat : Int) = 9 := pl.byte_ne9 hc
        have hn := Lib.hid ((pl.expTo_succ wd hlt).trans (by rw [← ho.out, pl.extB_else wd hc]))
        clear hc hpl hit hB hbel
        go_wp2_with fail
        refine (writeRune_any _ _ _ _ _ hB'.out (by omega) (by rw [Lib.byteCells_length]; omega) (by rw [Lib.iterAt_size]; omega)).mono ?_
        rintro e w3 ⟨⟨nn, rfl⟩, hB3, hb3, hk3, hs3⟩
        rw [cells_one] at hB3
        rw [Lib.iterAt_size] at hs3
        have hit3 := Lib.OthersKept.iter hk3 hit'.out (by omega)
        go_wp2_with fail
        go_roundw
        case rel => exact ⟨k + 1, _, by omega, Lib.hid hn.out.symm, hit3, .inr hB3, hbel'.out.trans (hb3.mono (by omega)), by omega⟩
        case measure => rw [hpos.out, iterPos_of hit3]; omega
    · obtain rfl : k = s.size := by omega
      have hnx : ∀ ty, (Instr.next (.pointer (some ⟨w1.heap.size + 1, 0, none⟩)) true ty).run Tryd.prog wr = _ := fun ty => Lib.run_next_end_at wr (w1.heap.size + 1) s s.size ty hit hlt
      have hn := Lib.hid (ho.out.trans (pl.expTo_all wd s))
      clear hit
      go_wp2_with fail
      refine (Tryd.Builder_String_any _ _ o _ hB (by omega)).mono ?_
      rintro e w3 ⟨rfl, hb3⟩
      go_wp2_with fail
      go_ret
      exact ⟨by rw [← hn.out]; rfl, hbel.trans (hb3.mono (by omega))⟩

theorem iExpandTabs_any (s : ByteArray) (a : Int) (w : World) (hs : s.size ≤ maxLen) (_ha : (Lit.int .i64 a).wf = true) :
    Calls Tryd.prog 14 #[.string s, .int .i64 a] w fun e w' => e = .returned (.string (pl.expB s a)) ∧ Below w.heap.size w w' := by
  by_cases hv : pl.tabT s.data.toList = true
  · rcases wd_cases a with ⟨wd, rfl, h1, h2⟩ | h | ⟨h0, h⟩
    · rw [pl.expB_ok hv h1 h2]
      exact iExpandTabs_ok s wd w hs hv h1 h2
    · have hf := Lib.hid (pl.expB_no (s := s) (.inr (.inl h)))
      go_enter Tryd.func14, Tryd.ntmps14
      go_wp2_with (go_at_call 42; refine (isTabbed_any _ _ hs).mono ?_; rintro e w1 ⟨rfl, hb0⟩)
      go_ret
      exact ⟨by rw [hf.out]; rfl, hb0⟩
    · have hf := Lib.hid (pl.expB_no (s := s) (.inr (.inr h)))
      go_enter Tryd.func14, Tryd.ntmps14
      go_wp2_with (go_at_call 42; refine (isTabbed_any _ _ hs).mono ?_; rintro e w1 ⟨rfl, hb0⟩)
      go_ret
      exact ⟨by rw [hf.out]; rfl, hb0⟩
  · have hv' : pl.tabT s.data.toList = false := by simpa using hv
    have hf := Lib.hid (pl.expB_no (wd := a) (.inl hv'))
    clear hv
    go_enter Tryd.func14, Tryd.ntmps14
    go_wp2_with (go_at_call 42; refine (isTabbed_any _ _ hs).mono ?_; rintro e w1 ⟨rfl, hb0⟩)
    go_ret
    exact ⟨by rw [hf.out]; rfl, hb0⟩
end Go.Proofs.YtcghlhjlfppllaaDoor
