/- Contracts: JustifyWords of both sides. -/
import Derived.Test.YtfajllfedhifkaaPlainY
import Derived.Test.YtfajllfedhifkaaWrap
import Derived.Test.YtfajllfedhifkaaJoin
import Derived.Test.YtfajllfedhifkaaTabs
import Derived.Deep.QuietTactic
import Derived.BigQuiet
namespace Go.Proofs.Ytfajllfedhifkaa
open Go.RowKit
set_option maxRecDepth 100000

theorem sspaces_q (a : Int) (k : Nat) (ha : a = k) (hk : k ≤ 100000) (w : World) (n : Nat) :
    Calls Try.prog 81 #[.int .i64 a] (w.drewN n) fun e w'' => e = .returned (.string (pl.spB k)) ∧ ∃ m, w'' = w.drewN m :=
  (sspaces_at a k ha _ hk).mono fun _ _ ⟨h1, h2⟩ => ⟨h1, n, h2.symm⟩

set_option maxHeartbeats 2000000 in
theorem sjustify_any (l : List ByteArray) (wd : Int) (B p : Nat) (v : Value) (w : World) (hr : RStrs w v l) (hp : l.length = p + 1) (hp1 : 1 ≤ p) (hp9 : p ≤ 8) (hB : wd - (pl.sz0 l : Int) = B) (hwd : wd ≤ 120) (h12 : ∀ x ∈ l, x.size ≤ 12) (hsz : (pl.sz0 l) ≤ 120) :
    Calls Try.prog 74 #[v, .int .i64 wd] w fun e w' => e = .returned (.string (pl.jTo (B / p) (B % p) l (p + 1))) ∧ Below w.heap.size w w' := by
  have HR := Lib.hid hr
  have HP := Lib.hid hp
  have H12 := Lib.hid h12
  obtain ⟨S, hS⟩ : ∃ S, Hid (pl.sz0 l = S) := ⟨_, Lib.hid rfl⟩
  obtain ⟨J, hJ⟩ : ∃ J, Hid (pl.joinB l ⟨#[]⟩ = J) := ⟨_, Lib.hid rfl⟩
  have hJS : J.size = S := by rw [← hJ.out, ← hS.out]; rfl
  rw [hS.out] at hB hsz
  obtain ⟨Q, hQ⟩ : ∃ Q, Hid (B / p = Q) := ⟨_, Lib.hid rfl⟩
  obtain ⟨R, hR⟩ : ∃ R, Hid (B % p = R) := ⟨_, Lib.hid rfl⟩
  have hQ2 : (B : Int) / (p : Int) = (Q : Int) := by rw [pl.div_int, hQ.out]
  have hR2 : (B : Int) % (p : Int) = (R : Int) := by rw [pl.mod_int, hR.out]
  have hQb : Q ≤ 120 := by rw [← hQ.out]; exact Nat.le_trans (Nat.div_le_self _ _) (by omega)
  have hRb : R < p := by rw [← hR.out]; exact Nat.mod_lt _ (by omega)
  obtain ⟨a0, cap0, rfl⟩ := hr.slice
  rw [hp] at HR ⊢
  rw [hQ.out, hR.out]
  clear hr hp h12
  go_enter Try.func74, Try.ntmps74
  go_wp2_with fail
  refine (sjoin_any l ⟨#[]⟩ _ _ HR.out (by have := HP.out; omega) (by rw [hJ.out, hJS]; omega)).mono ?_
  rintro e w' ⟨rfl, rfl⟩
  rw [hJ.out]
  obtain ⟨b1, o1, rfl, hx0⟩ := HR.out.at HP.out.symm (Below.refl _ _) (k := 0) (by omega)
  rw [Nat.add_zero] at hx0
  obtain ⟨x0, HX0⟩ : ∃ x, Hid (nth l 0 = x) := ⟨_, Lib.hid rfl⟩
  rw [HX0.out] at hx0
  go_wp2_with fail
  go_loopw [7, 8] (fun ov iv wr => ∃ (k : Nat) (o : ByteArray), k ≤ p ∧ iv = .int .i64 (k + 1 : Nat) ∧ ov = .string o ∧ Hid (o = pl.jTo Q R l (k + 1)) ∧ Below w.heap.size w wr) (fun _ iv _ => p + 1 - (intOf iv).toNat)
  case atStart => exact ⟨0, x0, Nat.zero_le _, rfl, rfl, Lib.hid HX0.out.symm, Below.refl _ _⟩
  case round =>
    obtain ⟨k, o, hk, rfl, rfl, ho, hbel⟩ := hrel
    have hosz : o.size ≤ 1400 := by
      have h := pl.jTo_size (r := R) hQb H12.out k (by rw [HP.out]; omega)
      rw [← ho.out] at h; omega
    by_cases hlt : k < p
    · obtain ⟨b2, o2, e2, hx⟩ := HR.out.at HP.out.symm hbel (k := k + 1) (by omega)
      simp only [Option.some.injEq, Addr.mk.injEq, and_true] at e2
      obtain ⟨rfl, rfl⟩ := e2
      obtain ⟨x, HX⟩ : ∃ x, Hid (nth l (k + 1) = x) := ⟨_, Lib.hid rfl⟩
      have hx12 : x.size ≤ 12 := by
        rw [← HX.out, nth_eq (by rw [HP.out]; omega)]
        exact H12.out _ (List.getElem_mem _)
      rw [HX.out] at hx
      by_cases hkr : k < R
      · have hn2 : Hid (o ++ pl.spB (Q + 1) ++ x = pl.jTo Q R l (k + 1 + 1)) := Lib.hid (by rw [pl.jTo_more hkr, ← ho.out, HX.out])
        have hzs : (pl.spB (Q + 1)).size ≤ 121 := by rw [pl.spB_size]; omega
        go_wp2_with fail
        go_quiet ((go_at_call 81; exact sspaces_q _ (Q + 1) (by omega) (by omega) _ _))
        go_wp2_with fail
        go_roundw
        case rel => exact ⟨k + 1, _, by omega, by go_num, rfl, hn2, hbel.trans below_drewN⟩
        case measure => simp [intOf]; omega
      · have hn2 : Hid (o ++ pl.spB Q ++ x = pl.jTo Q R l (k + 1 + 1)) := Lib.hid (by rw [pl.jTo_less hkr, ← ho.out, HX.out])
        have hzs : (pl.spB Q).size ≤ 121 := by rw [pl.spB_size]; omega
        go_wp2_with fail
        go_quiet ((go_at_call 81; exact sspaces_q _ Q (by omega) (by omega) _ _))
        go_wp2_with fail
        go_roundw
        case rel => exact ⟨k + 1, _, by omega, by go_num, rfl, hn2, hbel.trans below_drewN⟩
        case measure => simp [intOf]; omega
    · obtain rfl : k = p := by omega
      go_wp2_with fail
      go_ret
      exact ⟨by rw [← ho.out]; rfl, hbel⟩

set_option maxHeartbeats 1000000 in
theorem sJust_any (l : List ByteArray) (wd : Int) (v : Value) (w : World) (hr : RStrs w v l) (hlen : l.length ≤ maxLen) (hsz : ∀ i, i < l.length → (nth l i).size ≤ maxLen) :
    Calls Try.prog 39 #[v, .int .i64 wd] w fun e w' => e = .returned (.tuple #[.string (pl.justB l wd), .bool (pl.justOK l wd)]) ∧ Below w.heap.size w w' := by
  by_cases hv : pl.vWords l = true
  · have h9 := (pl.vWords_parts hv).1
    have h12 := Lib.hid (pl.words_12 hv)
    have hszj : Hid (pl.szJ l ≤ 117) := Lib.hid (by have := pl.szJ_bound l h12.out; omega)
    have hjn : Hid (pl.joinB l ⟨#[32]⟩ = pl.jline l) := Lib.hid rfl
    by_cases h2 : l.length < 2
    · have hb := Lib.hid (pl.justOK_no (wd := wd) (.inr (.inl h2)))
      have hb2 := Lib.hid (pl.justB_no hb.out)
      obtain ⟨n, hn⟩ : ∃ n, Hid (l.length = n) := ⟨_, Lib.hid rfl⟩
      obtain ⟨a0, cap0, rfl⟩ := hr.slice
      rw [hn.out] at h2 hr ⊢
      go_enter Try.func39, Try.ntmps39
      go_wp2_with fail
      refine (svalidWords_any l _ _ hr hlen hsz).mono ?_
      rintro e w' ⟨rfl, rfl⟩
      rw [hv]
      go_wp2_with fail
      go_ret2
      exact ⟨by rw [hb.out, hb2.out]; rfl, Below.refl _ _⟩
    · obtain ⟨p, hp⟩ : ∃ p, l.length = p + 1 := ⟨l.length - 1, by omega⟩
      have hp1 : 1 ≤ p := by omega
      have hp8 : p ≤ 8 := by omega
      have HP := Lib.hid hp
      obtain ⟨z, hz⟩ : ∃ z, Hid ((pl.jline l).size = z) := ⟨_, Lib.hid rfl⟩
      have hzz : Hid (pl.szJ l = z) := hz
      obtain ⟨Jn, hJn⟩ : ∃ Jn, Hid (pl.jline l = Jn) := ⟨_, Lib.hid rfl⟩
      have hJz : Jn.size = z := by rw [← hJn.out]; exact hz.out
      have hz117 : z ≤ 117 := by rw [← hzz.out]; exact hszj.out
      obtain ⟨a0, cap0, rfl⟩ := hr.slice
      have HR := Lib.hid hr
      rw [hp] at HR ⊢
      have HL := Lib.hid hlen
      have HS := Lib.hid hsz
      clear hr hp h2 h9 hlen hsz
      by_cases hin : pl.inR wd z 120 = true
      · have hwd := pl.inR_parts hin
        have hok := Lib.hid (pl.justOK_yes hv (by rw [HP.out]; omega) (by rw [hzz.out]; exact hin))
        have hs0 : Hid (pl.szJ l = pl.sz0 l + p) := Lib.hid (pl.szJ_sz0 HP.out)
        obtain ⟨B, hB⟩ : ∃ B : Nat, Hid (wd - (pl.sz0 l : Int) = B) := ⟨(wd - (pl.sz0 l : Int)).toNat, Lib.hid (by have h1 := hs0.out; rw [hzz.out] at h1; omega)⟩
        have hres := Lib.hid (pl.justB_yes hok.out HP.out hB.out)
        go_enter Try.func39, Try.ntmps39
        go_wp2_with fail
        refine (svalidWords_any l _ _ HR.out HL.out HS.out).mono ?_
        rintro e w' ⟨rfl, rfl⟩
        rw [hv]
        go_wp2_with fail
        refine (sjoin_any l ⟨#[32]⟩ _ _ HR.out (by have := HP.out; omega) (by rw [hjn.out, hz.out]; omega)).mono ?_
        rintro e w' ⟨rfl, rfl⟩
        rw [hjn.out, hJn.out]
        go_wp2_with fail
        refine (inRange_any _ _ _ _).mono ?_
        rintro e w' ⟨rfl, rfl⟩
        rw [hin]
        go_wp2_with fail
        refine (sjustify_any l wd B p _ _ HR.out HP.out hp1 hp8 hB.out hwd.2 h12.out (by have h1 := hs0.out; rw [hzz.out] at h1; omega)).mono ?_
        rintro e w1 ⟨rfl, hb1⟩
        go_wp2_with fail
        go_ret2
        exact ⟨by rw [hok.out, hres.out]; rfl, hb1⟩
      · have hin' : pl.inR wd z 120 = false := by simpa using hin
        have hb := Lib.hid (pl.justOK_no (l := l) (wd := wd) (.inr (.inr (by rw [hzz.out]; exact hin'))))
        have hb2 := Lib.hid (pl.justB_no hb.out)
        clear hin
        go_enter Try.func39, Try.ntmps39
        go_wp2_with fail
        refine (svalidWords_any l _ _ HR.out HL.out HS.out).mono ?_
        rintro e w' ⟨rfl, rfl⟩
        rw [hv]
        go_wp2_with fail
        refine (sjoin_any l ⟨#[32]⟩ _ _ HR.out (by have := HP.out; omega) (by rw [hjn.out, hz.out]; omega)).mono ?_
        rintro e w' ⟨rfl, rfl⟩
        rw [hjn.out, hJn.out]
        go_wp2_with fail
        refine (inRange_any _ _ _ _).mono ?_
        rintro e w' ⟨rfl, rfl⟩
        rw [hin']
        go_wp2_with fail
        go_ret2
        exact ⟨by rw [hb.out, hb2.out]; rfl, Below.refl _ _⟩
  · have hv' : pl.vWords l = false := by simpa using hv
    have hb := Lib.hid (pl.justOK_no (l := l) (wd := wd) (.inl hv'))
    have hb2 := Lib.hid (pl.justB_no hb.out)
    clear hv
    go_enter Try.func39, Try.ntmps39
    go_wp2_with fail
    refine (svalidWords_any l _ _ hr hlen hsz).mono ?_
    rintro e w' ⟨rfl, rfl⟩
    rw [hv']
    go_wp2_with fail
    go_ret2
    exact ⟨by rw [hb.out, hb2.out]; rfl, Below.refl _ _⟩
end Go.Proofs.Ytfajllfedhifkaa
