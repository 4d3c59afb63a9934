/- Contracts: TabText of both sides. -/
import Derived.Test.YtcghlhjlfppllaaDoorTrim
import Derived.Test.YtcghlhjlfppllaaDoorExpand
import Derived.Lib.IndexBytes
namespace Go.Proofs.YtcghlhjlfppllaaDoor
open Go.RowKit
set_option maxRecDepth 100000

theorem tabBlock_any (s : ByteArray) (w : World) (hs : s.size ≤ 1000000) :
    Calls Tryd.prog 38 #[.string s] w fun e w' => e = .returned (.string (pl.bs (pl.tb s.data.toList))) ∧ w = w' := by
  have hl := pl.rtrim_len s.data.toList
  rw [pl.len_eq] at hl
  obtain ⟨r, hr⟩ : ∃ r, Hid (pl.bs (pl.rtrim s.data.toList) = r) := ⟨_, Lib.hid rfl⟩
  have hrz : r.size ≤ s.size := by rw [← hr.out]; exact hl
  have hrl : Hid (r.size = (pl.rtrim s.data.toList).length) := Lib.hid (by rw [← hr.out]; rfl)
  clear hl
  by_cases h : s.size - r.size < 2
  · have hn := Lib.hid (show pl.bs (pl.tb s.data.toList) = s from by
      unfold pl.tb; rw [if_pos (by rw [pl.len_eq, ← hrl.out]; exact h)]; exact pl.bs_self s)
    go_enter Tryd.func38, Tryd.ntmps38
    go_wp2_with fail
    refine (trimRight_sp s _ hs).mono ?_
    rintro e w' ⟨rfl, rfl⟩
    rw [hr.out]
    go_wp2_with fail
    go_ret
    exact ⟨by rw [hn.out]; rfl, rfl⟩
  · have hn := Lib.hid (show pl.bs (pl.tb s.data.toList) = r ++ ⟨#[9]⟩ from by
      unfold pl.tb; rw [if_neg (by rw [pl.len_eq, ← hrl.out]; exact h), ← hr.out]; exact (ByteArray.mk_append_mk _ _).symm)
    go_enter Tryd.func38, Tryd.ntmps38
    go_wp2_with fail
    refine (trimRight_sp s _ hs).mono ?_
    rintro e w' ⟨rfl, rfl⟩
    rw [hr.out]
    go_wp2_with fail
    go_ret
    exact ⟨by rw [hn.out]; rfl, rfl⟩

theorem cells_str (o : List UInt8) (x : ByteArray) : Lib.byteCells o ++ Lib.strCells x = Lib.byteCells (o ++ x.data.toList) := by
  rw [Lib.strCells_eq, Lib.byteCells_append]

set_option maxHeartbeats 2000000 in
theorem iTabText_ok (s : ByteArray) (wd : Nat) (w : World) (hs : s.size ≤ maxLen) (hv : pl.validT s.data.toList = true) (h1 : 2 ≤ wd) (h2 : wd ≤ 12) :
    Calls Tryd.prog 12 #[.string s, .int .i64 wd] w fun e w' => e = .returned (.string (pl.bs (pl.tabL wd s.data.toList))) ∧ Below w.heap.size w w' := by
  have hsz := pl.validT_size hv
  go_enter Tryd.func12, Tryd.ntmps12
  go_wp2_with (go_at_call 36; refine (iValidText_any _ _ hs).mono ?_; rintro e w1 ⟨rfl, hb0⟩)
  have hsize := hb0.size
  go_loopw [0] (fun v wr => ∃ (t : ByteArray) (o : List UInt8) (f : Nat), v = .string t ∧ t.size ≤ f ∧ o.length + t.size ≤ 120 ∧ Hid (o ++ pl.tabF wd f t.data.toList = pl.tabL wd s.data.toList) ∧ IsB w1.heap.size w1.heap.size (Lib.byteCells o) wr ∧ Below w.heap.size w wr ∧ w1.heap.size < wr.heap.size)
    (fun v _ => match v with | .string t => t.size | _ => 0)
  case atStart => exact ⟨s, [], 120, rfl, by omega, by simp; omega, Lib.hid rfl, Lib.fresh_isBuilder 50 5 w1, hb0.alloc hsize _, by simp⟩
  case round =>
    obtain ⟨t, o, f, rfl, htf, hot, ho, hB, hbel, hlt1⟩ := hrel
    by_cases hlt : t.size < wd
    · have hn := Lib.hid (show pl.tabL wd s.data.toList = o ++ t.data.toList by rw [← ho.out, pl.tabF_short (by rw [pl.len_eq]; exact hlt)])
      go_wp2_with fail
      refine (writeString_any _ _ _ t _ hB (by rw [Lib.byteCells_length]; omega) (by omega)).mono ?_
      rintro e w3 ⟨rfl, hB3, hb3, hk3, hs3⟩
      rw [cells_str] at hB3
      have b3 := Lib.hid (hbel.trans (hb3.mono hsize))
      go_wp2_with fail
      refine (Tryd.Builder_String_any _ _ _ _ (.inr hB3) (by omega)).mono ?_
      rintro e w4 ⟨rfl, hb4⟩
      go_wp2_with fail
      go_ret
      exact ⟨by rw [hn.out]; rfl, b3.out.trans (hb4.mono hsize)⟩
    · have hge : wd ≤ t.size := by omega
      obtain ⟨f, rfl⟩ : ∃ f', f = f' + 1 := ⟨f - 1, by omega⟩
      have hx : Hid (t.extract 0 wd = pl.bs (t.data.toList.take wd)) := Lib.hid (by rw [pl.ex_bs]; unfold pl.seg; rw [List.drop_zero, Nat.sub_zero])
      have hxz : (t.extract 0 wd).size ≤ wd := by rw [hx.out, pl.take_size hge]; exact Nat.le_refl _
      have hy : Hid ((t.extract wd t.size).data.toList = t.data.toList.drop wd) := Lib.hid (Lib.extract_to_end t wd)
      have hyz : (t.extract wd t.size).size = t.size - wd := by rw [← pl.len_eq, hy.out, List.length_drop, pl.len_eq]
      have hbl := pl.tb_len (t.extract 0 wd).data.toList
      rw [pl.len_eq] at hbl
      have hn := Lib.hid (show (o ++ pl.tb (t.extract 0 wd).data.toList) ++ pl.tabF wd f (t.extract wd t.size).data.toList = pl.tabL wd s.data.toList by
        rw [← ho.out, pl.tabF_step (by rw [pl.len_eq]; omega), hx.out, hy.out, pl.bs_data, List.append_assoc])
      have HYZ := Lib.hid hyz
      clear hyz
      go_wp2_with fail
      refine (tabBlock_any _ _ (by omega)).mono ?_
      rintro e w2 ⟨rfl, rfl⟩
      obtain ⟨bl, hbq⟩ : ∃ bl, Hid (pl.bs (pl.tb (t.extract 0 wd).data.toList) = bl) := ⟨_, Lib.hid rfl⟩
      have hblz : bl.size ≤ wd := by rw [← hbq.out, pl.bs_size]; omega
      have hbld : Hid (bl.data.toList = pl.tb (t.extract 0 wd).data.toList) := Lib.hid (by rw [← hbq.out]; rfl)
      rw [hbq.out]
      go_wp2_with fail
      refine (writeString_any _ _ _ bl _ hB (by rw [Lib.byteCells_length]; omega) (by omega)).mono ?_
      rintro e w3 ⟨rfl, hB3, hb3, hk3, hs3⟩
      rw [cells_str, hbld.out] at hB3
      have b3 := Lib.hid (hbel.trans (hb3.mono hsize))
      go_wp2_with fail
      go_roundw
      case rel => exact ⟨_, _, f, rfl, by rw [HYZ.out]; omega, by rw [List.length_append, HYZ.out]; omega, hn, .inr hB3, b3.out, by omega⟩
      case measure => simp only [HYZ.out]; omega
end Go.Proofs.YtcghlhjlfppllaaDoor
