/- Contract: the program's JustifyWords. -/
import Derived.Test.YtfajllfedhifkaaJust
import Derived.Test.YtfajllfedhifkaaExpand
namespace Go.Proofs.Ytfajllfedhifkaa
open Go.RowKit
set_option maxRecDepth 100000

/-- strings.Join of a slice that can be read -/
theorem joinAll (l : List ByteArray) (sep : ByteArray) (v : Value) (w : World) (h : LStrs w v l) (h0 : 0 < l.length) (hl : l.length ≤ 2000000) (hsz : (pl.joinB l sep).size ≤ 1000000000000) :
    Calls Try.prog 70 #[v, .string sep] w fun e w' => e = .returned (.string (pl.joinB l sep)) ∧ Below w.heap.size w w' := by
  obtain ⟨hr, a, cap, rfl, hcap⟩ := h
  have hr2 := hr
  rcases hr2 with ⟨hz, _⟩ | ⟨hpos, b1, o1, c1, hvv, hb1, hc1⟩
  · rw [hz] at h0; simp at h0
  · simp only [Value.slice.injEq] at hvv
    obtain ⟨rfl, _, rfl⟩ := hvv
    have h := joinAt b1 o1 cap l.length 0 l.length l sep w hr rfl hcap h0 (by omega) hl (by rw [List.drop_zero, List.take_length]; exact hsz)
    rw [List.drop_zero, List.take_length] at h
    exact h
theorem cells_str (o : List UInt8) (s : ByteArray) : Lib.byteCells o ++ Lib.strCells s = Lib.byteCells (o ++ s.data.toList) := by
  rw [Lib.strCells_eq, Lib.byteCells_append]
theorem bs_app3 (o : List UInt8) (a b : ByteArray) : pl.bs (o ++ (a ++ b).data.toList) = pl.bs o ++ a ++ b := by
  rw [pl.bs_append, pl.bs_self, ByteArray.append_assoc]

set_option maxHeartbeats 2000000 in
theorem iJust_ok (l : List ByteArray) (wd : Int) (B p : Nat) (v : Value) (w : World) (hl : LStrs w v l) (hv : pl.vWords l = true) (hin : pl.inR wd 1 120 = true) (hp : l.length = p + 1) (hp1 : 1 ≤ p) (hB : wd - (pl.sz0 l : Int) = B) (hBp : p ≤ B) :
    Calls Try.prog 38 #[v, .int .i64 wd] w fun e w' => e = .returned (.tuple #[.string (pl.jTo (B / p) (B % p) l (p + 1)), .bool true]) ∧ Below w.heap.size w w' := by
  have h9 := (pl.vWords_parts hv).1
  have hp8 : p ≤ 8 := by omega
  have hwd := pl.inR_parts hin
  have H12 := Lib.hid (pl.words_12 hv)
  have HL := Lib.hid hl
  have HP := Lib.hid hp
  have hlen : Hid (l.length ≤ maxLen) := Lib.hid (by unfold maxLen; omega)
  have hsz : Hid (∀ i, i < l.length → (nth l i).size ≤ maxLen) := Lib.hid (fun i hi => by
    rw [nth_eq hi]; have := H12.out _ (List.getElem_mem hi); unfold maxLen; omega)
  obtain ⟨S, hS⟩ : ∃ S, Hid (pl.sz0 l = S) := ⟨_, Lib.hid rfl⟩
  obtain ⟨J, hJ⟩ : ∃ J, Hid (pl.joinB l ⟨#[]⟩ = J) := ⟨_, Lib.hid rfl⟩
  have hJS : J.size = S := by rw [← hJ.out, ← hS.out]; rfl
  rw [hS.out] at hB
  obtain ⟨Q, hQ⟩ : ∃ Q, Hid (B / p = Q) := ⟨_, Lib.hid rfl⟩
  obtain ⟨R, hR⟩ : ∃ R, Hid (B % p = R) := ⟨_, Lib.hid rfl⟩
  have hQ2 : (B : Int) / (p : Int) = (Q : Int) := by rw [pl.div_int, hQ.out]
  have hR2 : (B : Int) % (p : Int) = (R : Int) := by rw [pl.mod_int, hR.out]
  have hQb : Q ≤ 120 := by rw [← hQ.out]; exact Nat.le_trans (Nat.div_le_self _ _) (by omega)
  have hRb : R < p := by rw [← hR.out]; exact Nat.mod_lt _ (by omega)
  obtain ⟨hr, a0, cap0, rfl, hcap⟩ := hl
  have HR := Lib.hid hr
  rw [hp] at HR HL hcap ⊢
  rw [hQ.out, hR.out]
  clear hr hp h9
  go_enter Try.func38, Try.ntmps38
  go_wp2_with fail
  refine (iValidWords_any l _ _ HR.out hlen.out hsz.out).mono ?_
  rintro e w1 ⟨rfl, hb1⟩
  rw [hv]
  go_wp2_with fail
  refine (isWidth_any _ _).mono ?_
  rintro e w' ⟨rfl, rfl⟩
  rw [hin]
  go_wp2_with fail
  refine (joinAll l ⟨#[]⟩ _ _ (HL.out.below (Nat.le_refl _) hb1) (by rw [HP.out]; omega) (by rw [HP.out]; omega) (by rw [hJ.out, hJS]; omega)).mono ?_
  rintro e w2 ⟨rfl, hb2⟩
  rw [hJ.out]
  have hbA := hb1.trans (hb2.mono hb1.size)
  have hA0 := hbA.size
  have hbB : Below w.heap.size w (w2.alloc (.cells #[.pointer none, .slice none 0 0] 65)) := hbA.alloc hA0 _
  obtain ⟨b1, o1, rfl, hx0⟩ := HR.out.at HP.out.symm hbB (k := 0) (by omega)
  rw [Nat.add_zero] at hx0
  obtain ⟨x0, HX0⟩ : ∃ x, Hid (nth l 0 = x) := ⟨_, Lib.hid rfl⟩
  have hx0s : x0.size ≤ 12 := by
    rw [← HX0.out, nth_eq (by rw [HP.out]; omega)]
    exact H12.out _ (List.getElem_mem _)
  rw [HX0.out] at hx0
  have hBf := Lib.hid (Lib.fresh_isBuilder 65 5 w2)
  have HBB := Lib.hid hbB
  clear hb1 hb2 hbA hbB
  go_wp2_with fail
  refine (writeString_any w2.heap.size w2.heap.size [] x0 _ hBf.out (by simp; omega) (by simp)).mono ?_
  rintro e w3 ⟨rfl, hB3, hb3, hk3, hs3⟩
  have HB3 : Hid (IsB w2.heap.size w2.heap.size (Lib.byteCells x0.data.toList) w3) := Lib.hid (.inr (by
    have h := hB3
    rw [List.nil_append, Lib.strCells_eq] at h; exact h))
  have HBel3 := Lib.hid (HBB.out.trans (hb3.mono (by omega)))
  have hsz3 : w2.heap.size < w3.heap.size := by simp at hs3; omega
  clear hB3 hb3 hk3 hs3 hx0
  go_wp2_with fail
  go_loopw [43] (fun iv wr => ∃ (k : Nat) (o : List UInt8), k ≤ p ∧ iv = .int .i64 k ∧ Hid (pl.bs o = pl.jTo Q R l (k + 1)) ∧ IsB w2.heap.size w2.heap.size (Lib.byteCells o) wr ∧ Below w.heap.size w wr ∧ w2.heap.size < wr.heap.size) (fun iv _ => p - (intOf iv).toNat)
  case atStart => exact ⟨0, x0.data.toList, Nat.zero_le _, rfl, Lib.hid ((pl.bs_self x0).trans HX0.out.symm), HB3.out, HBel3.out, hsz3⟩
  case round =>
    obtain ⟨k, o, hk, rfl, ho, hBo, hbel, hsz2⟩ := hrel
    have hosz : o.length ≤ 1400 := by
      have h := pl.jTo_size (r := R) hQb H12.out k (by rw [HP.out]; omega)
      rw [← ho.out, pl.bs_size] at h; omega
    by_cases hlt : k < p
    · obtain ⟨b2, o2, e2, hx⟩ := HR.out.at HP.out.symm hbel (k := k + 1) (by omega)
      simp only [Option.some.injEq, Addr.mk.injEq, and_true] at e2
      obtain ⟨rfl, rfl⟩ := e2
      obtain ⟨x, HX⟩ : ∃ x, Hid (nth l (k + 1) = x) := ⟨_, Lib.hid rfl⟩
      have hx12 : x.size ≤ 12 := by
        rw [← HX.out, nth_eq (by rw [HP.out]; omega)]
        exact H12.out _ (List.getElem_mem _)
      rw [HX.out, show o1 + (k + 1) = o1 + 1 + k from by omega] at hx
      by_cases hkr : k < R
      · have hzs : (pl.spB (Q + 1)).size ≤ 121 := by rw [pl.spB_size]; omega
        go_wp2_with fail
        refine (ispaces_at _ (Q + 1) (by omega) _ (by omega)).mono ?_
        rintro e w4 ⟨rfl, hb4⟩
        have HB4 := Lib.hid (IsB.below hBo (Nat.le_refl _) hb4)
        have HBel4 := Lib.hid (hbel.trans (hb4.mono hbel.size))
        have hs4 := hb4.size
        have hn2 : Hid (pl.bs (o ++ (pl.spB (Q + 1) ++ x).data.toList) = pl.jTo Q R l (k + 1 + 1)) := Lib.hid (by rw [pl.jTo_more hkr, ← ho.out, HX.out]; exact bs_app3 o _ x)
        have hzx : (pl.spB (Q + 1) ++ x).size ≤ 140 := by rw [ByteArray.size_append]; omega
        clear hb4 hBo
        go_wp2_with fail
        refine (writeString_any w2.heap.size w2.heap.size _ (pl.spB (Q + 1) ++ x) _ HB4.out (by rw [Lib.byteCells_length]; omega) (by omega)).mono ?_
        rintro e w5 ⟨rfl, hB5, hb5, hk5, hs5⟩
        have HB5 : Hid (IsB w2.heap.size w2.heap.size (Lib.byteCells (o ++ (pl.spB (Q + 1) ++ x).data.toList)) w5) := Lib.hid (.inr (by
          have h := hB5
          rw [cells_str] at h; exact h))
        have HBel5 := Lib.hid (HBel4.out.trans (hb5.mono (by omega)))
        clear hB5 hb5 hk5
        go_wp2_with fail
        go_roundw
        case rel => exact ⟨k + 1, _, by omega, by go_num, hn2, HB5.out, HBel5.out, by omega⟩
        case measure => simp [intOf]; omega
      · have hzs : (pl.spB (Q)).size ≤ 121 := by rw [pl.spB_size]; omega
        go_wp2_with fail
        refine (ispaces_at _ (Q) (by omega) _ (by omega)).mono ?_
        rintro e w4 ⟨rfl, hb4⟩
        have HB4 := Lib.hid (IsB.below hBo (Nat.le_refl _) hb4)
        have HBel4 := Lib.hid (hbel.trans (hb4.mono hbel.size))
        have hs4 := hb4.size
        have hn2 : Hid (pl.bs (o ++ (pl.spB (Q) ++ x).data.toList) = pl.jTo Q R l (k + 1 + 1)) := Lib.hid (by rw [pl.jTo_less hkr, ← ho.out, HX.out]; exact bs_app3 o _ x)
        have hzx : (pl.spB (Q) ++ x).size ≤ 140 := by rw [ByteArray.size_append]; omega
        clear hb4 hBo
        go_wp2_with fail
        refine (writeString_any w2.heap.size w2.heap.size _ (pl.spB (Q) ++ x) _ HB4.out (by rw [Lib.byteCells_length]; omega) (by omega)).mono ?_
        rintro e w5 ⟨rfl, hB5, hb5, hk5, hs5⟩
        have HB5 : Hid (IsB w2.heap.size w2.heap.size (Lib.byteCells (o ++ (pl.spB (Q) ++ x).data.toList)) w5) := Lib.hid (.inr (by
          have h := hB5
          rw [cells_str] at h; exact h))
        have HBel5 := Lib.hid (HBel4.out.trans (hb5.mono (by omega)))
        clear hB5 hb5 hk5
        go_wp2_with fail
        go_roundw
        case rel => exact ⟨k + 1, _, by omega, by go_num, hn2, HB5.out, HBel5.out, by omega⟩
        case measure => simp [intOf]; omega
    · obtain rfl : k = p := by omega
      go_wp2_with fail
      refine (Try.Builder_String_any _ _ o _ hBo (by omega)).mono ?_
      rintro e w4 ⟨rfl, hb4⟩
      have HBel4 := Lib.hid (hbel.trans (hb4.mono (by omega)))
      clear hb4
      go_wp2_with fail
      go_ret2
      exact ⟨by rw [← ho.out]; rfl, HBel4.out⟩

set_option maxHeartbeats 1000000 in
theorem iJust_any (l : List ByteArray) (wd : Int) (v : Value) (w : World) (hl : LStrs w v l) (hlen : l.length ≤ maxLen) (hsz : ∀ i, i < l.length → (nth l i).size ≤ maxLen) :
    Calls Try.prog 38 #[v, .int .i64 wd] w fun e w' => e = .returned (.tuple #[.string (pl.justB l wd), .bool (pl.justOK l wd)]) ∧ Below w.heap.size w w' := by
  by_cases hv : pl.vWords l = true
  · have h9 := (pl.vWords_parts hv).1
    have h12 := Lib.hid (pl.words_12 hv)
    have hszj : Hid (pl.szJ l ≤ 117) := Lib.hid (by have := pl.szJ_bound l h12.out; omega)
    by_cases h2 : l.length < 2
    · have hb := Lib.hid (pl.justOK_no (wd := wd) (.inr (.inl h2)))
      have hb2 := Lib.hid (pl.justB_no hb.out)
      have HL := Lib.hid hl
      obtain ⟨n, hn⟩ : ∃ n, Hid (l.length = n) := ⟨_, Lib.hid rfl⟩
      obtain ⟨hr, a0, cap0, rfl, hcap⟩ := hl
      rw [hn.out] at h2 HL ⊢
      go_enter Try.func38, Try.ntmps38
      go_wp2_with fail
      refine (iValidWords_any l _ _ HL.out.1 hlen hsz).mono ?_
      rintro e w1 ⟨rfl, hb1⟩
      rw [hv]
      go_wp2_with fail
      go_ret2
      exact ⟨by rw [hb.out, hb2.out]; rfl, hb1⟩
    · obtain ⟨p, hp⟩ : ∃ p, l.length = p + 1 := ⟨l.length - 1, by omega⟩
      have hp1 : 1 ≤ p := by omega
      have hp8 : p ≤ 8 := by omega
      have HP := Lib.hid hp
      have hs0 : Hid (pl.szJ l = pl.sz0 l + p) := Lib.hid (pl.szJ_sz0 hp)
      by_cases hin : pl.inR wd 1 120 = true
      · have hwd := pl.inR_parts hin
        by_cases hfit : (pl.szJ l : Int) ≤ wd
        · have hok := Lib.hid (pl.justOK_yes (wd := wd) hv (by omega) (pl.inR_true hfit hwd.2))
          obtain ⟨B, hB⟩ : ∃ B : Nat, wd - (pl.sz0 l : Int) = B := ⟨(wd - (pl.sz0 l : Int)).toNat, by have h1 := hs0.out; omega⟩
          have hres := pl.justB_yes hok.out hp hB
          rw [hres, hok.out]
          exact iJust_ok l wd B p v w hl hv hin hp hp1 hB (by have h1 := hs0.out; omega)
        · have hb := Lib.hid (pl.justOK_no (l := l) (wd := wd) (.inr (.inr (pl.inR_false (.inl (by omega))))))
          have hb2 := Lib.hid (pl.justB_no hb.out)
          obtain ⟨S, hS⟩ : ∃ S, Hid (pl.sz0 l = S) := ⟨_, Lib.hid rfl⟩
          obtain ⟨J, hJ⟩ : ∃ J, Hid (pl.joinB l ⟨#[]⟩ = J) := ⟨_, Lib.hid rfl⟩
          have hJS : J.size = S := by rw [← hJ.out, ← hS.out]; rfl
          have hlt : wd - (S : Int) < p := by have h1 := hs0.out; rw [hS.out] at h1; omega
          have hS120 : S ≤ 117 := by have h1 := hs0.out; have h2 := hszj.out; rw [hS.out] at h1; omega
          have HL := Lib.hid hl
          have HI := Lib.hid hin
          obtain ⟨hr, a0, cap0, rfl, hcap⟩ := hl
          rw [hp] at HL ⊢
          clear hr hp h2 h9 hin hfit
          go_enter Try.func38, Try.ntmps38
          go_wp2_with fail
          refine (iValidWords_any l _ _ HL.out.1 hlen hsz).mono ?_
          rintro e w1 ⟨rfl, hb1⟩
          rw [hv]
          go_wp2_with fail
          refine (isWidth_any _ _).mono ?_
          rintro e w' ⟨rfl, rfl⟩
          rw [HI.out]
          go_wp2_with fail
          refine (joinAll l ⟨#[]⟩ _ _ (HL.out.below (Nat.le_refl _) hb1) (by rw [HP.out]; omega) (by rw [HP.out]; have := hp1; have := hs0.out; have := hszj.out; omega) (by rw [hJ.out, hJS]; omega)).mono ?_
          rintro e w2 ⟨rfl, hb2'⟩
          rw [hJ.out]
          have hbA := hb1.trans (hb2'.mono hb1.size)
          clear hb1 hb2'
          go_wp2_with fail
          go_ret2
          exact ⟨by rw [hb.out, hb2.out]; rfl, hbA⟩
      · have hin' : pl.inR wd 1 120 = false := by simpa using hin
        have hb := Lib.hid (pl.justOK_no (l := l) (wd := wd) (.inr (.inr (by
          apply pl.inR_false
          rcases Int.lt_or_le wd 1 with h | h
          · left
            have h1 := hs0.out
            omega
          · rcases Int.lt_or_le 120 wd with h3 | h3
            · exact .inr h3
            · rw [pl.inR_true h h3] at hin'; cases hin'))))
        have hb2 := Lib.hid (pl.justB_no hb.out)
        have HL := Lib.hid hl
        obtain ⟨hr, a0, cap0, rfl, hcap⟩ := hl
        rw [hp] at HL ⊢
        clear hr hp h2 h9 hin
        go_enter Try.func38, Try.ntmps38
        go_wp2_with fail
        refine (iValidWords_any l _ _ HL.out.1 hlen hsz).mono ?_
        rintro e w1 ⟨rfl, hb1⟩
        rw [hv]
        go_wp2_with fail
        refine (isWidth_any _ _).mono ?_
        rintro e w' ⟨rfl, rfl⟩
        rw [hin']
        go_wp2_with fail
        go_ret2
        exact ⟨by rw [hb.out, hb2.out]; rfl, hb1⟩
  · have hv' : pl.vWords l = false := by simpa using hv
    have hb := Lib.hid (pl.justOK_no (l := l) (wd := wd) (.inl hv'))
    have hb2 := Lib.hid (pl.justB_no hb.out)
    clear hv
    go_enter Try.func38, Try.ntmps38
    go_wp2_with fail
    refine (iValidWords_any l _ _ hl.1 hlen hsz).mono ?_
    rintro e w1 ⟨rfl, hb1⟩
    rw [hv']
    go_wp2_with fail
    go_ret2
    exact ⟨by rw [hb.out, hb2.out]; rfl, hb1⟩
end Go.Proofs.Ytfajllfedhifkaa
