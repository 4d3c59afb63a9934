/- Contracts: ExpandTabs of both sides. -/
import Derived.Test.YtcghlhjlfppllaaTabs
namespace Go.Proofs.Ytcghlhjlfppllaa
open Go.RowKit

set_option maxHeartbeats 1000000 in
theorem sexpand_any (s : ByteArray) (wd : Nat) (w : World) (hs : s.size ≤ 120) (h1 : 1 ≤ wd) (h2 : wd ≤ 12) :
    Calls Try.prog 56 #[.string s, .int .i64 wd] w fun e w' => e = .returned (.string (pl.bs (pl.expL wd s.data.toList))) ∧ w = w' := by
  go_enter Try.func56, Try.ntmps56
  go_wp2
  go_loop [5, 6] (fun out i => ∃ (k : Nat) (o : List UInt8), k ≤ s.size ∧ i = .int .i64 k ∧ out = .string (pl.bs o) ∧ Hid (o = pl.expTo wd s k)) (fun _ i => s.size - (intOf i).toNat)
  case atStart => exact ⟨0, [], Nat.zero_le _, rfl, rfl, Lib.hid rfl⟩
  case round =>
    obtain ⟨k, o, hk, rfl, rfl, ho⟩ := hrel
    have hol : o.length ≤ 1440 := by have := pl.expTo_len h1 h2 s k hk; rw [← ho.out] at this; omega
    have hosz : (pl.bs o).size ≤ 1440 := hol
    by_cases hlt : k < s.size
    · by_cases hc : s[k] = 9
      · have h9 : (s[k].toNat : Int) = 9 := by rw [hc]; rfl
        have hn := Lib.hid ((pl.expTo_succ wd hlt).trans (by rw [← ho.out, pl.extB_nine wd hc]))
        have hwd := Lib.hid (pl.wd_sub (pl.bs o).size h1)
        obtain ⟨hm0, hm1⟩ := pl.mod_bd (pl.bs o).size h1
        have hspz : (pl.spB (wd - (pl.bs o).size % wd)).size ≤ 12 := by rw [pl.spB_size]; omega
        clear hc
        go_wp2_with (go_at_call 64; refine (sspaces_at _ _ hwd.out _ (by omega)).mono ?_; rintro e w' ⟨rfl, rfl⟩)
        go_round
        case rel => exact ⟨k + 1, _, by omega, by go_num, congrArg Value.string (pl.bs_spB o _), Lib.hid hn.out.symm⟩
        case measure => simp [intOf]; omega
      · have h9 : ¬ (s[k].toNat : Int) = 9 := pl.byte_ne9 hc
        have hn := Lib.hid ((pl.expTo_succ wd hlt).trans (by rw [← ho.out, pl.extB_else wd hc]))
        have hex : (s.extract k (k + 1)).size ≤ 1 := by rw [pl.ex_bs, pl.bs_size, pl.seg_len (by omega)]; omega
        have hes := Lib.hid (pl.bs_one o hlt)
        clear hc
        go_wp2
        go_round
        case rel => exact ⟨k + 1, _, by omega, by go_num, congrArg Value.string hes.out, Lib.hid hn.out.symm⟩
        case measure => simp [intOf]; omega
    · obtain rfl : k = s.size := by omega
      have hn := Lib.hid (ho.out.trans (pl.expTo_all wd s))
      go_wp2
      go_ret
      exact ⟨by rw [← hn.out]; rfl, rfl⟩

theorem wd_cases (a : Int) : (∃ wd : Nat, a = wd ∧ 1 ≤ wd ∧ wd ≤ 12) ∨ (a < 1) ∨ (1 ≤ a ∧ 12 < a) := by
  by_cases h1 : a < 1
  · exact .inr (.inl h1)
  · by_cases h2 : 12 < a
    · exact .inr (.inr ⟨by omega, h2⟩)
    · exact .inl ⟨a.toNat, by omega, by omega, by omega⟩

set_option maxHeartbeats 1000000 in
theorem sExpandTabs_any (s : ByteArray) (a : Int) (w : World) (hs : s.size ≤ maxLen) (_ha : (Lit.int .i64 a).wf = true) :
    Calls Try.prog 29 #[.string s, .int .i64 a] w fun e w' => e = .returned (.string (pl.expB s a)) ∧ Below w.heap.size w w' := by
  by_cases hv : pl.tabT s.data.toList = true
  · rcases wd_cases a with ⟨wd, rfl, h1, h2⟩ | h | ⟨h0, h⟩
    · have hsz := pl.tabT_size hv
      have hin := pl.inR_true (n := (wd : Int)) (lo := 1) (hi := 12) (by omega) (by omega)
      have hf := Lib.hid (pl.expB_ok hv h1 h2)
      go_enter Try.func29, Try.ntmps29
      go_wp2_with (first | (go_at_call 54; refine (svalidTabs_any _ _ hs).mono ?_; rintro e w' ⟨rfl, rfl⟩) | (go_at_call 55; refine (inRange_any _ _ _ _).mono ?_; rintro e w' ⟨rfl, rfl⟩) | (go_at_call 56; refine (sexpand_any _ wd _ hsz h1 h2).mono ?_; rintro e w' ⟨rfl, rfl⟩))
      go_ret
      exact ⟨by rw [hf.out]; rfl, Below.refl _ _⟩
    · have hin := pl.inR_false (n := a) (lo := 1) (hi := 12) (.inl h)
      have hf := Lib.hid (pl.expB_no (s := s) (.inr (.inl h)))
      go_enter Try.func29, Try.ntmps29
      go_wp2_with (first | (go_at_call 54; refine (svalidTabs_any _ _ hs).mono ?_; rintro e w' ⟨rfl, rfl⟩) | (go_at_call 55; refine (inRange_any _ _ _ _).mono ?_; rintro e w' ⟨rfl, rfl⟩))
      go_ret
      exact ⟨by rw [hf.out]; rfl, Below.refl _ _⟩
    · have hin := pl.inR_false (n := a) (lo := 1) (hi := 12) (.inr h)
      have hf := Lib.hid (pl.expB_no (s := s) (.inr (.inr h)))
      go_enter Try.func29, Try.ntmps29
      go_wp2_with (first | (go_at_call 54; refine (svalidTabs_any _ _ hs).mono ?_; rintro e w' ⟨rfl, rfl⟩) | (go_at_call 55; refine (inRange_any _ _ _ _).mono ?_; rintro e w' ⟨rfl, rfl⟩))
      go_ret
      exact ⟨by rw [hf.out]; rfl, Below.refl _ _⟩
  · have hv' : pl.tabT s.data.toList = false := by simpa using hv
    have hf := Lib.hid (pl.expB_no (wd := a) (.inl hv'))
    clear hv
    go_enter Try.func29, Try.ntmps29
    go_wp2_with (go_at_call 54; refine (svalidTabs_any _ _ hs).mono ?_; rintro e w' ⟨rfl, rfl⟩)
    go_ret
    exact ⟨by rw [hf.out]; rfl, Below.refl _ _⟩

theorem BAt.below {B b C : Nat} {p : Value} {bs : List Value} {w w' : World} (h : BAt B b p bs w) (hC : w.heap.size ≤ C) (hb : Below C w w') : BAt B b p bs w' := by
  have hlt := h.lt
  obtain ⟨hB, v, hbk, hown, hne⟩ := h
  refine ⟨hB, v, (hb.block b (by omega)).trans hbk, ⟨hown.1, ?_⟩, hne⟩
  rcases hown.2 with hn | ⟨g, cap, cur, rfl, hg, hh, rest⟩
  · exact .inl hn
  · refine .inr ⟨g, cap, cur, rfl, hg, ?_, rest⟩
    rw [hb.block g (by have := (Array.getElem?_eq_some_iff.1 hh).1; omega)]
    exact hh
theorem BAt.iterAt {B b k pos pos' : Nat} {p : Value} {bs : List Value} {w : World} {s : ByteArray} (h : BAt B b p bs w) (hk : w.heap[k]? = some (.stringIter s pos)) : BAt B b p bs (w.iterAt k s pos') := by
  obtain ⟨hB, v, hb, hown, hne⟩ := h
  have hkb : b ≠ k := by
    intro e1
    rw [e1, hk] at hb
    cases hb
  refine ⟨hB, v, (Lib.iterAt_other w k b s pos' hkb).trans hb, ⟨hown.1, ?_⟩, hne⟩
  rcases hown.2 with hn | ⟨g, cap, cur, hv, hbg, hg, rest⟩
  · exact .inl hn
  · have hkg : g ≠ k := by
      intro e1
      rw [e1, hk] at hg
      cases hg
    exact .inr ⟨g, cap, cur, hv, hbg, (Lib.iterAt_other w k g s pos' hkg).trans hg, rest⟩
theorem IsB.below {B b C : Nat} {bs : List Value} {w w' : World} (h : IsB B b bs w) (hC : w.heap.size ≤ C) (hb : Below C w w') : IsB B b bs w' := h.elim (fun x => .inl (BAt.below x hC hb)) (fun x => .inr (BAt.below x hC hb))
theorem IsB.iterAt {B b k pos pos' : Nat} {bs : List Value} {w : World} {s : ByteArray} (h : IsB B b bs w) (hk : w.heap[k]? = some (.stringIter s pos)) : IsB B b bs (w.iterAt k s pos') := h.elim (fun x => .inl (BAt.iterAt x hk)) (fun x => .inr (BAt.iterAt x hk))
theorem IsB.alloc {B b : Nat} {bs : List Value} {w : World} (h : IsB B b bs w) (o : Obj) : IsB B b bs (w.alloc o) := IsB.below h (Nat.le_refl _) ((Below.refl _ _).alloc (Nat.le_refl _) o)

theorem builderLen_any (B b : Nat) (o : List UInt8) (w : World) (h : IsB B b (Lib.byteCells o) w) :
    Calls Try.prog 51 #[.pointer (some ⟨b, 0, none⟩)] w fun e w' => e = .returned (.int .i64 (pl.bs o).size) ∧ w = w' := by
  refine (Try.Builder_Len B b (Lib.byteCells o) w h).mono ?_
  rintro e w' ⟨rfl, rfl⟩
  exact ⟨by rw [Lib.byteCells_length]; rfl, rfl⟩

theorem cells_spB (o : List UInt8) (n : Nat) : Lib.byteCells o ++ Lib.strCells (pl.spB n) = Lib.byteCells (o ++ pl.spL n) := by
  rw [Lib.strCells_eq, Lib.byteCells_append]; rfl
theorem cells_one (o : List UInt8) (c : UInt8) : Lib.byteCells o ++ [.int .u8 (c.toNat : Int)] = Lib.byteCells (o ++ [c]) := by
  rw [Lib.byteCells_append]; rfl
end Go.Proofs.Ytcghlhjlfppllaa
