/- Contracts: lines, their leads and margins. -/
import Derived.Test.YtkbfceahhginhaaRRRRDoorRRRRTrimL
import Derived.Test.YtkbfceahhginhaaRRRRDoorRRRRLinesV
namespace Go.Proofs.YtkbfceahhginhaaRRRRDoorRRRR
open Go.RowKit
set_option maxRecDepth 100000

namespace pl
def blank (s : ByteArray) : Bool := decide (s.size ≤ ld s)
theorem blank_yes {s : ByteArray} (h : s.size ≤ ld s) : blank s = true := by simp [blank, h]
theorem blank_no {s : ByteArray} (h : ¬ s.size ≤ ld s) : blank s = false := by simp [blank, h]
theorem ld_zero (s : ByteArray) : leadL (s.data.toList.drop 0) + 0 = ld s := rfl
end pl

set_option maxHeartbeats 400000 in
theorem lead_any (s : ByteArray) (w : World) (hs : s.size ≤ maxLen) :
    Calls Tryd.prog 35 #[.string s] w fun e w' => e = .returned (.int .i64 (pl.ld s)) ∧ w = w' := by
  unfold maxLen at hs
  go_enter Tryd.func35, Tryd.ntmps35
  go_wp2
  go_loop [3] (fun i => ∃ k : Nat, k ≤ s.size ∧ i = .int .i64 k ∧ Hid (pl.leadL (s.data.toList.drop k) + k = pl.ld s)) (fun i => s.size - (intOf i).toNat)
  case atStart => exact ⟨0, Nat.zero_le _, rfl, Lib.hid (pl.ld_zero s)⟩
  case round =>
    obtain ⟨k, hk, rfl, hc⟩ := hrel
    by_cases hlt : k < s.size
    · by_cases e : s[k] = 32
      · have h1 : (s[k].toNat : Int) = 32 := by rw [e]; rfl
        have hn := Lib.hid (pl.ld_next hc.out hlt e)
        clear e
        go_wp2
        go_round
        case rel => exact ⟨k + 1, by omega, by go_num, hn⟩
        case measure => simp [intOf]; omega
      · have h1 : ¬ (s[k].toNat : Int) = 32 := pl.byte_ne e
        have hn := Lib.hid (pl.ld_at hc.out hlt e)
        clear e
        go_wp2
        go_ret
        exact ⟨by rw [hn.out]; rfl, rfl⟩
    · have hn : Hid (pl.ld s = k) := Lib.hid (by
        have e : k = s.size := by omega
        have h := hc.out
        rw [e] at h ⊢; exact pl.ld_end h)
      go_wp2
      go_ret
      exact ⟨by rw [hn.out]; rfl, rfl⟩

theorem isBlank_any (s : ByteArray) (w : World) :
    Calls Tryd.prog 36 #[.string s] w fun e w' => e = .returned (.bool (pl.blank s)) ∧ w = w' := by
  by_cases h : s.size ≤ pl.ld s
  · have h0 : (pl.ltrim s).toList.isEmpty = true := pl.empty_of (by rw [pl.ltrim_size]; omega)
    have hb := Lib.hid (pl.blank_yes h)
    clear h
    go_enter Tryd.func36, Tryd.ntmps36
    go_wp2_with fail
    refine (trimLeft_sp s _).mono ?_
    rintro e w' ⟨rfl, rfl⟩
    go_wp2_with fail
    go_ret
    exact ⟨ret_b hb.out.symm, rfl⟩
  · have h0 : (pl.ltrim s).toList.isEmpty = false := pl.nonempty_of (by rw [pl.ltrim_size]; omega)
    have hb := Lib.hid (pl.blank_no h)
    clear h
    go_enter Tryd.func36, Tryd.ntmps36
    go_wp2_with fail
    refine (trimLeft_sp s _).mono ?_
    rintro e w' ⟨rfl, rfl⟩
    go_wp2_with fail
    go_ret
    exact ⟨ret_b hb.out.symm, rfl⟩

namespace pl
theorem mTo_yes {l : List ByteArray} {k : Nat} {x : ByteArray} {o : Int} {L : Nat} (hk : k < l.length) (hx : nth l k = x) (ho : mTo l k = o) (hL : ld x = L) (h1 : L < x.size) (h2 : o < 0 ∨ (L : Int) < o) : mTo l (k + 1) = L := by
  subst hx ho hL; rw [mTo_succ hk]; exact stepM_yes h1 h2
theorem mTo_no {l : List ByteArray} {k : Nat} {x : ByteArray} {o : Int} {L : Nat} (hk : k < l.length) (hx : nth l k = x) (ho : mTo l k = o) (hL : ld x = L) (h : x.size ≤ L ∨ (0 ≤ o ∧ o ≤ L)) : mTo l (k + 1) = o := by
  subst hx ho hL; rw [mTo_succ hk]; exact stepM_no h
end pl

set_option maxHeartbeats 1000000 in
theorem smargin_any (l : List ByteArray) (v : Value) (w : World) (hr : RStrs w v l) (hlen : l.length ≤ 1048576) (hsz : ∀ i, i < l.length → (nth l i).size ≤ 1048576) :
    Calls Tryd.prog 34 #[v] w fun e w' => e = .returned (.int .i64 (pl.marginL l)) ∧ w = w' := by
  have HB := Lib.hid (pl.mTo_bd hsz)
  obtain ⟨n, hn⟩ : ∃ n, n = l.length := ⟨_, rfl⟩
  have HN := Lib.hid hn
  have HSZ := Lib.hid hsz
  have hrr := Lib.hid hr
  obtain ⟨a0, cap0, rfl⟩ := hr.slice
  rw [← hn] at hlen hrr ⊢
  clear hn hr hsz
  go_enter Tryd.func34, Tryd.ntmps34
  go_wp2_with fail
  go_loop [3, 4] (fun ov iv => ∃ (k : Nat) (o : Int), k ≤ n ∧ ov = .int .i64 o ∧ iv = .int .i64 k ∧ Hid (pl.mTo l k = o)) (fun _ iv => n - (intOf iv).toNat)
  case atStart => exact ⟨0, -1, Nat.zero_le _, rfl, rfl, Lib.hid rfl⟩
  case round =>
    obtain ⟨k, o, hk, rfl, rfl, ho⟩ := hrel
    have hbd := HB.out k (by rw [← HN.out]; exact hk)
    rw [ho.out] at hbd
    obtain ⟨hbd1, hbd2⟩ := hbd
    by_cases hlt : k < n
    · obtain ⟨b1, o1, rfl, hx⟩ := hrr.out.at HN.out (Below.refl _ _) hlt
      have hxm := HSZ.out k (by rw [← HN.out]; exact hlt)
      obtain ⟨x, HX⟩ : ∃ x, Hid (nth l k = x) := ⟨_, Lib.hid rfl⟩
      rw [HX.out] at hx hxm
      have hkl : Hid (k < l.length) := Lib.hid (by rw [← HN.out]; exact hlt)
      obtain ⟨L, HL⟩ : ∃ L, Hid (pl.ld x = L) := ⟨_, Lib.hid rfl⟩
      have hLx := pl.ld_le x
      rw [HL.out] at hLx
      by_cases hin : L < x.size
      · by_cases hneg : o < 0
        · have hn2 := Lib.hid (pl.mTo_yes hkl.out HX.out ho.out HL.out hin (.inl hneg))
          go_wp2_with fail
          refine (lead_any x _ (by unfold maxLen; omega)).mono ?_
          rintro e w' ⟨rfl, rfl⟩
          rw [HL.out]
          go_wp2_with fail
          go_round
          case rel => exact ⟨k + 1, _, by omega, rfl, by go_num, hn2⟩
          case measure => simp [intOf]; omega
        · by_cases hl : (L : Int) < o
          · have hn2 := Lib.hid (pl.mTo_yes hkl.out HX.out ho.out HL.out hin (.inr hl))
            go_wp2_with fail
            refine (lead_any x _ (by unfold maxLen; omega)).mono ?_
            rintro e w' ⟨rfl, rfl⟩
            rw [HL.out]
            go_wp2_with fail
            go_round
            case rel => exact ⟨k + 1, _, by omega, rfl, by go_num, hn2⟩
            case measure => simp [intOf]; omega
          · have hn2 := Lib.hid (pl.mTo_no hkl.out HX.out ho.out HL.out (.inr ⟨by omega, by omega⟩))
            go_wp2_with fail
            refine (lead_any x _ (by unfold maxLen; omega)).mono ?_
            rintro e w' ⟨rfl, rfl⟩
            rw [HL.out]
            go_wp2_with fail
            go_round
            case rel => exact ⟨k + 1, _, by omega, rfl, by go_num, hn2⟩
            case measure => simp [intOf]; omega
      · have hn2 := Lib.hid (pl.mTo_no hkl.out HX.out ho.out HL.out (.inl (by omega)))
        go_wp2_with fail
        refine (lead_any x _ (by unfold maxLen; omega)).mono ?_
        rintro e w' ⟨rfl, rfl⟩
        rw [HL.out]
        go_wp2_with fail
        go_round
        case rel => exact ⟨k + 1, _, by omega, rfl, by go_num, hn2⟩
        case measure => simp [intOf]; omega
    · obtain rfl : k = n := by omega
      have he : Hid (pl.marginL l = max o 0) := Lib.hid (by rw [pl.marginL, ← HN.out, ho.out])
      by_cases hneg : o < 0
      · have he2 : Hid (pl.marginL l = 0) := Lib.hid (by rw [he.out]; omega)
        go_wp2_with fail
        go_ret
        exact ⟨by rw [he2.out]; go_num, rfl⟩
      · have he2 : Hid (pl.marginL l = o) := Lib.hid (by rw [he.out]; omega)
        go_wp2_with fail
        go_ret
        exact ⟨by rw [he2.out]; go_num, rfl⟩

set_option maxHeartbeats 1000000 in
theorem iMarginOf_any (l : List ByteArray) (v : Value) (w : World) (hr : RStrs w v l) (hlen : l.length ≤ 1048576) (hsz : ∀ i, i < l.length → (nth l i).size ≤ 1048576) :
    Calls Tryd.prog 12 #[v] w fun e w' => e = .returned (.int .i64 (pl.marginB l)) ∧ Below w.heap.size w w' := by
  have HB := Lib.hid (pl.mTo_bd hsz)
  have hlen2 : Hid (l.length ≤ maxLen) := Lib.hid (by unfold maxLen; omega)
  have hsz2 : Hid (∀ i, i < l.length → (nth l i).size ≤ maxLen) := Lib.hid (fun i hi => by have := hsz i hi; unfold maxLen; omega)
  obtain ⟨n, hn⟩ : ∃ n, n = l.length := ⟨_, rfl⟩
  have HN := Lib.hid hn
  have HSZ := Lib.hid hsz
  have hrr := Lib.hid hr
  obtain ⟨a0, cap0, rfl⟩ := hr.slice
  rw [← hn] at hlen hrr ⊢
  clear hn hr hsz
  by_cases hv : pl.validLs l = true
  · have hme := Lib.hid (pl.marginB_ok hv)
    go_enter Tryd.func12, Tryd.ntmps12
    go_wp2_with fail
    refine (ivalidLines_any l _ _ hrr.out hlen2.out hsz2.out).mono ?_
    rintro e w1 ⟨rfl, hb1⟩
    rw [hv]
    clear hv
    have hbh := Lib.hid hb1
    go_wp2_with fail
    go_loop [3, 12] (fun ov iv => ∃ (k : Nat) (o : Int), k ≤ n ∧ ov = .int .i64 o ∧ iv = .int .i64 k ∧ Hid (pl.mTo l k = o)) (fun _ iv => n - (intOf iv).toNat)
    case atStart => exact ⟨0, -1, Nat.zero_le _, rfl, rfl, Lib.hid rfl⟩
    case round =>
      obtain ⟨k, o, hk, rfl, rfl, ho⟩ := hrel
      have hbd := HB.out k (by rw [← HN.out]; exact hk)
      rw [ho.out] at hbd
      obtain ⟨hbd1, hbd2⟩ := hbd
      by_cases hlt : k < n
      · obtain ⟨b1, o1, rfl, hx⟩ := hrr.out.at HN.out hbh.out hlt
        have hxm := HSZ.out k (by rw [← HN.out]; exact hlt)
        obtain ⟨x, HX⟩ : ∃ x, Hid (nth l k = x) := ⟨_, Lib.hid rfl⟩
        rw [HX.out] at hx hxm
        have hkl : Hid (k < l.length) := Lib.hid (by rw [← HN.out]; exact hlt)
        obtain ⟨L, HL⟩ : ∃ L, Hid (pl.ld x = L) := ⟨_, Lib.hid rfl⟩
        have hLx := pl.ld_le x
        rw [HL.out] at hLx
        by_cases hin : L < x.size
        · have hbk : Hid (pl.blank x = false) := Lib.hid (pl.blank_no (by rw [HL.out]; omega))
          obtain ⟨t, HT⟩ : ∃ t, Hid (pl.ltrim x = t) := ⟨_, Lib.hid rfl⟩
          have htz : t.size = x.size - L := by rw [← HT.out, pl.ltrim_size, HL.out]
          have hs : Hid ((x.size : Int) - (t.size : Int) = (L : Int)) := Lib.hid (by omega)
          have hge : t.size ≤ x.size := by omega
          clear htz
          by_cases hneg : o < 0
          · have hn2 := Lib.hid (pl.mTo_yes hkl.out HX.out ho.out HL.out hin (.inl hneg))
            go_wp2_with fail
            refine (isBlank_any x _).mono ?_
            rintro e w' ⟨rfl, rfl⟩
            rw [hbk.out]
            go_wp2_with fail
            refine (trimLeft_sp x _).mono ?_
            rintro e w' ⟨rfl, rfl⟩
            rw [HT.out]
            go_wp2_with fail
            go_round
            case rel => exact ⟨k + 1, _, by omega, rfl, by go_num, Lib.hid (by rw [hn2.out, ← hs.out])⟩
            case measure => simp [intOf]; omega
          · by_cases hl : (L : Int) < o
            · have hn2 := Lib.hid (pl.mTo_yes hkl.out HX.out ho.out HL.out hin (.inr hl))
              have hl2 : (x.size : Int) - (t.size : Int) < o := by rw [hs.out]; exact hl
              clear hl
              go_wp2_with fail
              refine (isBlank_any x _).mono ?_
              rintro e w' ⟨rfl, rfl⟩
              rw [hbk.out]
              go_wp2_with fail
              refine (trimLeft_sp x _).mono ?_
              rintro e w' ⟨rfl, rfl⟩
              rw [HT.out]
              go_wp2_with fail
              go_round
              case rel => exact ⟨k + 1, _, by omega, rfl, by go_num, Lib.hid (by rw [hn2.out, ← hs.out])⟩
              case measure => simp [intOf]; omega
            · have hn2 := Lib.hid (pl.mTo_no hkl.out HX.out ho.out HL.out (.inr ⟨by omega, by omega⟩))
              have hl2 : ¬ (x.size : Int) - (t.size : Int) < o := by rw [hs.out]; exact hl
              clear hl
              go_wp2_with fail
              refine (isBlank_any x _).mono ?_
              rintro e w' ⟨rfl, rfl⟩
              rw [hbk.out]
              go_wp2_with fail
              refine (trimLeft_sp x _).mono ?_
              rintro e w' ⟨rfl, rfl⟩
              rw [HT.out]
              go_wp2_with fail
              go_round
              case rel => exact ⟨k + 1, _, by omega, rfl, by go_num, hn2⟩
              case measure => simp [intOf]; omega
        · have hbk : Hid (pl.blank x = true) := Lib.hid (pl.blank_yes (by rw [HL.out]; omega))
          have hn2 := Lib.hid (pl.mTo_no hkl.out HX.out ho.out HL.out (.inl (by omega)))
          go_wp2_with fail
          refine (isBlank_any x _).mono ?_
          rintro e w' ⟨rfl, rfl⟩
          rw [hbk.out]
          go_wp2_with fail
          go_round
          case rel => exact ⟨k + 1, _, by omega, rfl, by go_num, hn2⟩
          case measure => simp [intOf]; omega
      · obtain rfl : k = n := by omega
        have he : Hid (pl.marginL l = max o 0) := Lib.hid (by rw [pl.marginL, ← HN.out, ho.out])
        by_cases hneg : o < 0
        · have he2 : Hid (pl.marginL l = 0) := Lib.hid (by rw [he.out]; omega)
          go_wp2_with fail
          go_ret
          exact ⟨by rw [hme.out, he2.out]; go_num, hbh.out⟩
        · have he2 : Hid (pl.marginL l = o) := Lib.hid (by rw [he.out]; omega)
          go_wp2_with fail
          go_ret
          exact ⟨by rw [hme.out, he2.out]; go_num, hbh.out⟩
  · have hv' : pl.validLs l = false := by simpa using hv
    have he := Lib.hid (pl.marginB_no hv')
    clear hv
    go_enter Tryd.func12, Tryd.ntmps12
    go_wp2_with fail
    refine (ivalidLines_any l _ _ hrr.out hlen2.out hsz2.out).mono ?_
    rintro e w' ⟨rfl, hb1⟩
    rw [hv']
    go_wp2_with fail
    go_ret
    exact ⟨by rw [he.out]; rfl, hb1⟩
end Go.Proofs.YtkbfceahhginhaaRRRRDoorRRRR
