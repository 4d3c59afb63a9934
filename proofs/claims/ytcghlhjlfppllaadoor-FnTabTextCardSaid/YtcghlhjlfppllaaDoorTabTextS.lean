/- Contract: the model's TabText. -/
import Derived.Test.YtcghlhjlfppllaaDoorTabText
namespace Go.Proofs.YtcghlhjlfppllaaDoor.pl
theorem bs_app2 (a b : List UInt8) : bs a ++ bs b = bs (a ++ b) := ByteArray.mk_append_mk a b
theorem seg_get {s : ByteArray} {a e i : Nat} (h : a + i < e) (he : e ≤ s.size) : (seg s.data.toList a e)[i]? = some (s[a + i]'(by omega)) := by
  unfold seg
  rw [List.getElem?_take, if_pos (by omega), List.getElem?_drop, get_some (by omega)]
theorem seg_block {s : ByteArray} {a wd : Nat} : seg s.data.toList a (a + wd) = (s.data.toList.drop a).take wd := by unfold seg; rw [show a + wd - a = wd from by omega]
theorem seg_rest {s : ByteArray} {a : Nat} : seg s.data.toList a s.size = s.data.toList.drop a := by
  unfold seg; rw [List.take_of_length_le (by rw [List.length_drop, len_eq]; omega)]
theorem seg_take {s : ByteArray} {a c e : Nat} (hc : c ≤ e) : (seg s.data.toList a e).take (c - a) = seg s.data.toList a c := by
  unfold seg; rw [List.take_take]; congr 1; omega
theorem tb_keep {s : ByteArray} {a wd c : Nat} (h : a + wd ≤ s.size) (hc : rcut (seg s.data.toList a (a + wd)) wd = c - a) (h2 : wd - (c - a) < 2) : tb (seg s.data.toList a (a + wd)) = seg s.data.toList a (a + wd) := by
  have hl : (seg s.data.toList a (a + wd)).length = wd := by rw [seg_len h]; omega
  have h3 := rcut_le (seg s.data.toList a (a + wd)) wd
  unfold tb rtrim
  rw [hl, hc, if_pos]
  rw [List.length_take, hl]; omega
theorem tb_cut {s : ByteArray} {a wd c : Nat} (h : a + wd ≤ s.size) (hc : rcut (seg s.data.toList a (a + wd)) wd = c - a) (hca : c ≤ a + wd) (h2 : ¬ wd - (c - a) < 2) : tb (seg s.data.toList a (a + wd)) = seg s.data.toList a c ++ [9] := by
  have hl : (seg s.data.toList a (a + wd)).length = wd := by rw [seg_len h]; omega
  unfold tb rtrim
  rw [hl, hc, if_neg (by rw [List.length_take, hl]; omega), seg_take hca]
end Go.Proofs.YtcghlhjlfppllaaDoor.pl
namespace Go.Proofs.YtcghlhjlfppllaaDoor
open Go.RowKit
set_option maxRecDepth 100000

set_option maxHeartbeats 4000000 in
theorem sTabText_ok (s : ByteArray) (wd : Nat) (w : World) (hs : s.size ≤ maxLen) (hv : pl.validT s.data.toList = true) (h1 : 2 ≤ wd) (h2 : wd ≤ 12) :
    Calls Tryd.prog 13 #[.string s, .int .i64 wd] w fun e w' => e = .returned (.string (pl.bs (pl.tabL wd s.data.toList))) ∧ w = w' := by
  have hsz := pl.validT_size hv
  have hin := pl.inR_true (n := (wd : Int)) (lo := 2) (hi := 12) (by omega) (by omega)
  go_enter Tryd.func13, Tryd.ntmps13
  go_wp2_with (first | (go_at_call 40; refine (svalidText_any _ _ hs).mono ?_; rintro e w' ⟨rfl, rfl⟩) | (go_at_call 41; refine (inRange_any _ _ _ _).mono ?_; rintro e w' ⟨rfl, rfl⟩))
  go_loop [5, 6] (fun out av => ∃ (a f : Nat) (o : List UInt8), out = .string (pl.bs o) ∧ av = .int .i64 a ∧ a ≤ s.size + 12 ∧ s.size - a ≤ f ∧ o.length ≤ a ∧ Hid (o ++ pl.tabF wd f (s.data.toList.drop a) = pl.tabL wd s.data.toList)) (fun _ av => s.size - (intOf av).toNat)
  case atStart => exact ⟨0, 120, [], rfl, rfl, by omega, by omega, by simp, Lib.hid rfl⟩
  case round =>
    obtain ⟨a, f, o, rfl, rfl, ha, hf, hol, ho⟩ := hrel
    have hoz : (pl.bs o).size ≤ 140 := by rw [pl.bs_size]; omega
    by_cases hlt : a < s.size
    · obtain ⟨f, rfl⟩ : ∃ f', f = f' + 1 := ⟨f - 1, by omega⟩
      by_cases hfull : a + wd ≤ s.size
      · have hmin : min ((a : Int) + (wd : Int)) (s.size : Int) = (a : Int) + wd := Int.min_eq_left (by omega)
        go_wp2_with fail
        go_loop [8] (fun cv => ∃ c : Nat, a ≤ c ∧ c ≤ a + wd ∧ cv = .int .i64 c ∧ Hid (pl.rcut (pl.seg s.data.toList a (a + wd)) wd = pl.rcut (pl.seg s.data.toList a (a + wd)) (c - a))) (fun cv => (intOf cv).toNat)
        case atStart => exact ⟨a + wd, by omega, by omega, by go_num, Lib.hid (by rw [show a + wd - a = wd from by omega])⟩
        case round =>
          obtain ⟨c, hca, hcw, rfl, hrc⟩ := hrel
          by_cases hac : a < c
          · obtain ⟨j, rfl⟩ : ∃ j, c = j + 1 := ⟨c - 1, by omega⟩
            have hj : j < s.size := by omega
            have hg := pl.seg_get (s := s) (a := a) (e := a + wd) (i := j - a) (by omega) hfull
            have hgj : Hid ((pl.seg s.data.toList a (a + wd))[j - a]? = some s[j]) := Lib.hid (by rw [hg]; congr 2; omega)
            have hsuc : Hid (j + 1 - a = (j - a) + 1) := Lib.hid (by omega)
            clear hg
            by_cases e : s[j] = 32
            · have e1 : (s[j].toNat : Int) = 32 := by rw [e]; rfl
              have hn := Lib.hid (hrc.out.trans (by rw [hsuc.out, pl.rcut_sp (by rw [hgj.out, e])]))
              clear e
              go_wp2_with fail
              go_round
              case rel => exact ⟨j, by omega, by omega, by go_num, hn⟩
              case measure => simp [intOf]
            · have e1 : ¬ (s[j].toNat : Int) = 32 := pl.byte_ne e
              have hc := Lib.hid (show pl.rcut (pl.seg s.data.toList a (a + wd)) wd = (j + 1) - a from hrc.out.trans (by rw [hsuc.out, pl.rcut_no (by rw [hgj.out]; intro h; exact e (Option.some.inj h))]))
              clear e
              by_cases hcut : wd - (j + 1 - a) < 2
              · have hcut' : decide ((2 : Int) ≤ (a : Int) + wd - ((j : Int) + 1)) = false := by apply decide_eq_false; omega
                have hcut2 : (a : Int) + wd - ((j : Int) + 1) < 2 := by omega
                have hn := Lib.hid (show (o ++ pl.seg s.data.toList a (a + wd)) ++ pl.tabF wd f (s.data.toList.drop (a + wd)) = pl.tabL wd s.data.toList by
                  rw [← ho.out, pl.tabF_step (by rw [List.length_drop, pl.len_eq]; omega), ← pl.seg_block, pl.tb_keep hfull hc.out hcut, List.drop_drop, List.append_assoc])
                have hex : (s.extract a (a + wd)).size ≤ 12 := by rw [pl.ex_bs, pl.bs_size, pl.seg_len hfull]; omega
                have hev := Lib.hid (show pl.bs o ++ s.extract a (a + wd) = pl.bs (o ++ pl.seg s.data.toList a (a + wd)) by rw [pl.ex_bs]; exact ByteArray.mk_append_mk _ _)
                go_wp2_with fail
                go_round
                case rel => exact ⟨a + wd, f, _, congrArg Value.string hev.out, by go_num, by omega, by omega, by rw [List.length_append, pl.seg_len hfull]; omega, hn⟩
                case measure => simp [intOf]; omega
              · have hcut' : decide ((2 : Int) ≤ (a : Int) + wd - ((j : Int) + 1)) = true := by apply decide_eq_true; omega
                have hcut2 : (2 : Int) ≤ (a : Int) + wd - ((j : Int) + 1) := by omega
                have hn := Lib.hid (show (o ++ pl.seg s.data.toList a (j + 1) ++ [9]) ++ pl.tabF wd f (s.data.toList.drop (a + wd)) = pl.tabL wd s.data.toList by
                  rw [← ho.out, pl.tabF_step (by rw [List.length_drop, pl.len_eq]; omega), ← pl.seg_block, pl.tb_cut hfull hc.out hcw hcut, List.drop_drop]; simp only [List.append_assoc])
                have hex : (s.extract a (j + 1)).size ≤ 12 := by rw [pl.ex_bs, pl.bs_size, pl.seg_len (by omega)]; omega
                have h9z : (ByteArray.mk #[9]).size ≤ 1 := Nat.le_refl _
                have hev := Lib.hid (show pl.bs o ++ s.extract a (j + 1) ++ ⟨#[9]⟩ = pl.bs (o ++ pl.seg s.data.toList a (j + 1) ++ [9]) by rw [pl.ex_bs, pl.bs_app2]; exact ByteArray.mk_append_mk _ _)
                go_wp2_with fail
                go_round
                case rel => exact ⟨a + wd, f, _, congrArg Value.string hev.out, by go_num, by omega, by omega, by rw [List.length_append, List.length_append, pl.seg_len (by omega)]; simp; omega, hn⟩
                case measure => simp [intOf]; omega
          · obtain rfl : c = a := by omega
            have hc := Lib.hid (show pl.rcut (pl.seg s.data.toList c (c + wd)) wd = c - c from hrc.out.trans (by rw [Nat.sub_self]; rfl))
            have hn := Lib.hid (show (o ++ [9]) ++ pl.tabF wd f (s.data.toList.drop (c + wd)) = pl.tabL wd s.data.toList by
              rw [← ho.out, pl.tabF_step (by rw [List.length_drop, pl.len_eq]; omega), ← pl.seg_block, pl.tb_cut hfull hc.out (by omega) (by omega), List.drop_drop, pl.seg_self]; simp only [List.append_assoc, List.nil_append])
            have h9z : (ByteArray.mk #[9]).size ≤ 1 := Nat.le_refl _
            have hev := Lib.hid (show pl.bs o ++ ⟨#[9]⟩ = pl.bs (o ++ [9]) from ByteArray.mk_append_mk _ _)
            go_wp2_with fail
            go_round
            case rel => exact ⟨c + wd, f, _, congrArg Value.string hev.out, by go_num, by omega, by omega, by rw [List.length_append]; simp; omega, hn⟩
            case measure => simp [intOf]; omega
      · have hmin : min ((a : Int) + (wd : Int)) (s.size : Int) = (s.size : Int) := Int.min_eq_right (by omega)
        go_wp2_with fail
        go_loop [8] (fun cv => ∃ c : Nat, a ≤ c ∧ c ≤ s.size ∧ cv = .int .i64 c) (fun cv => (intOf cv).toNat)
        case atStart => exact ⟨s.size, by omega, by omega, rfl⟩
        case round =>
          obtain ⟨c, hca, hcw, rfl⟩ := hrel
          by_cases hac : a < c
          · obtain ⟨j, rfl⟩ : ∃ j, c = j + 1 := ⟨c - 1, by omega⟩
            have hj : j < s.size := by omega
            by_cases e : s[j] = 32
            · have e1 : (s[j].toNat : Int) = 32 := by rw [e]; rfl
              clear e
              go_wp2_with fail
              go_round
              case rel => exact ⟨j, by omega, by omega, by go_num⟩
              case measure => simp [intOf]
            · have e1 : ¬ (s[j].toNat : Int) = 32 := pl.byte_ne e
              clear e
              have hn := Lib.hid (show (o ++ pl.seg s.data.toList a s.size) ++ pl.tabF wd f (s.data.toList.drop (a + wd)) = pl.tabL wd s.data.toList by
                rw [← ho.out, List.drop_of_length_le (i := a + wd) (by rw [pl.len_eq]; omega), pl.tabF_short (l := []) (by simp; omega), List.append_nil, pl.tabF_short (by rw [List.length_drop, pl.len_eq]; omega), pl.seg_rest])
              have hex : (s.extract a s.size).size ≤ 12 := by rw [pl.ex_bs, pl.bs_size, pl.seg_len (Nat.le_refl _)]; omega
              have hev := Lib.hid (show pl.bs o ++ s.extract a s.size = pl.bs (o ++ pl.seg s.data.toList a s.size) by rw [pl.ex_bs]; exact ByteArray.mk_append_mk _ _)
              have hne : ¬ (s.size : Int) - (a : Int) = wd := by omega
              go_wp2_with fail
              go_round
              case rel => exact ⟨a + wd, f, _, congrArg Value.string hev.out, by go_num, by omega, by omega, by rw [List.length_append, pl.seg_len (Nat.le_refl _)]; omega, hn⟩
              case measure => simp [intOf]; omega
          · obtain rfl : c = a := by omega
            have hn := Lib.hid (show (o ++ pl.seg s.data.toList c s.size) ++ pl.tabF wd f (s.data.toList.drop (c + wd)) = pl.tabL wd s.data.toList by
              rw [← ho.out, List.drop_of_length_le (i := c + wd) (by rw [pl.len_eq]; omega), pl.tabF_short (l := []) (by simp; omega), List.append_nil, pl.tabF_short (by rw [List.length_drop, pl.len_eq]; omega), pl.seg_rest])
            have hex : (s.extract c s.size).size ≤ 12 := by rw [pl.ex_bs, pl.bs_size, pl.seg_len (Nat.le_refl _)]; omega
            have hev := Lib.hid (show pl.bs o ++ s.extract c s.size = pl.bs (o ++ pl.seg s.data.toList c s.size) by rw [pl.ex_bs]; exact ByteArray.mk_append_mk _ _)
            have hne : ¬ (s.size : Int) - (c : Int) = wd := by omega
            go_wp2_with fail
            go_round
            case rel => exact ⟨c + wd, f, _, congrArg Value.string hev.out, by go_num, by omega, by omega, by rw [List.length_append, pl.seg_len (Nat.le_refl _)]; omega, hn⟩
            case measure => simp [intOf]; omega
    · have hn := Lib.hid (show pl.tabL wd s.data.toList = o by
        rw [← ho.out, List.drop_of_length_le (by rw [pl.len_eq]; omega), pl.tabF_short (by simp; omega), List.append_nil])
      go_wp2_with fail
      go_ret
      exact ⟨by rw [hn.out]; rfl, rfl⟩

theorem t_cases (a : Int) : (∃ wd : Nat, a = wd ∧ 2 ≤ wd ∧ wd ≤ 12) ∨ (a < 2) ∨ (2 ≤ a ∧ 12 < a) := by
  by_cases h1 : a < 2
  · exact .inr (.inl h1)
  · by_cases h2 : 12 < a
    · exact .inr (.inr ⟨by omega, h2⟩)
    · exact .inl ⟨a.toNat, by omega, by omega, by omega⟩

theorem sTabText_any (s : ByteArray) (a : Int) (w : World) (hs : s.size ≤ maxLen) (_ha : (Lit.int .i64 a).wf = true) :
    Calls Tryd.prog 13 #[.string s, .int .i64 a] w fun e w' => e = .returned (.string (pl.tabB' s a)) ∧ Below w.heap.size w w' := by
  by_cases hv : pl.validT s.data.toList = true
  · rcases t_cases a with ⟨wd, rfl, h1, h2⟩ | h | ⟨h0, h⟩
    · rw [pl.tabX_ok hv h1 h2]
      refine (sTabText_ok s wd w hs hv h1 h2).mono ?_
      rintro e w' ⟨rfl, rfl⟩
      exact ⟨rfl, Below.refl _ _⟩
    · have hin := pl.inR_false (n := a) (lo := 2) (hi := 12) (.inl h)
      have hf := Lib.hid (pl.tabX_no (s := s) (.inr (.inl h)))
      go_enter Tryd.func13, Tryd.ntmps13
      go_wp2_with (first | (go_at_call 40; refine (svalidText_any _ _ hs).mono ?_; rintro e w' ⟨rfl, rfl⟩) | (go_at_call 41; refine (inRange_any _ _ _ _).mono ?_; rintro e w' ⟨rfl, rfl⟩))
      go_ret
      exact ⟨by rw [hf.out]; rfl, Below.refl _ _⟩
    · have hin := pl.inR_false (n := a) (lo := 2) (hi := 12) (.inr h)
      have hf := Lib.hid (pl.tabX_no (s := s) (.inr (.inr h)))
      go_enter Tryd.func13, Tryd.ntmps13
      go_wp2_with (first | (go_at_call 40; refine (svalidText_any _ _ hs).mono ?_; rintro e w' ⟨rfl, rfl⟩) | (go_at_call 41; refine (inRange_any _ _ _ _).mono ?_; rintro e w' ⟨rfl, rfl⟩))
      go_ret
      exact ⟨by rw [hf.out]; rfl, Below.refl _ _⟩
  · have hv' : pl.validT s.data.toList = false := by simpa using hv
    have hf := Lib.hid (pl.tabX_no (wd := a) (.inl hv'))
    clear hv
    go_enter Tryd.func13, Tryd.ntmps13
    go_wp2_with (go_at_call 40; refine (svalidText_any _ _ hs).mono ?_; rintro e w' ⟨rfl, rfl⟩)
    go_ret
    exact ⟨by rw [hf.out]; rfl, Below.refl _ _⟩

theorem iTabText_any (s : ByteArray) (a : Int) (w : World) (hs : s.size ≤ maxLen) (_ha : (Lit.int .i64 a).wf = true) :
    Calls Tryd.prog 12 #[.string s, .int .i64 a] w fun e w' => e = .returned (.string (pl.tabB' s a)) ∧ Below w.heap.size w w' := by
  by_cases hv : pl.validT s.data.toList = true
  · rcases t_cases a with ⟨wd, rfl, h1, h2⟩ | h | ⟨h0, h⟩
    · rw [pl.tabX_ok hv h1 h2]
      exact iTabText_ok s wd w hs hv h1 h2
    · have hf := Lib.hid (pl.tabX_no (s := s) (.inr (.inl h)))
      go_enter Tryd.func12, Tryd.ntmps12
      go_wp2_with (go_at_call 36; refine (iValidText_any _ _ hs).mono ?_; rintro e w1 ⟨rfl, hb0⟩)
      go_ret
      exact ⟨by rw [hf.out]; rfl, hb0⟩
    · have hf := Lib.hid (pl.tabX_no (s := s) (.inr (.inr h)))
      go_enter Tryd.func12, Tryd.ntmps12
      go_wp2_with (go_at_call 36; refine (iValidText_any _ _ hs).mono ?_; rintro e w1 ⟨rfl, hb0⟩)
      go_ret
      exact ⟨by rw [hf.out]; rfl, hb0⟩
  · have hv' : pl.validT s.data.toList = false := by simpa using hv
    have hf := Lib.hid (pl.tabX_no (wd := a) (.inl hv'))
    clear hv
    go_enter Tryd.func12, Tryd.ntmps12
    go_wp2_with (go_at_call 36; refine (iValidText_any _ _ hs).mono ?_; rintro e w1 ⟨rfl, hb0⟩)
    go_ret
    exact ⟨by rw [hf.out]; rfl, hb0⟩
end Go.Proofs.YtcghlhjlfppllaaDoor
