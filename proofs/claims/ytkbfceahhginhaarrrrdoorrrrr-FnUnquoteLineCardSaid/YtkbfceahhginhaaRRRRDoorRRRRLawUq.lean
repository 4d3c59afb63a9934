/- DrawUnquoteLine, and the walk of FnUnquoteLine. -/
import Derived.Test.YtkbfceahhginhaaRRRRDoorRRRRUnq
import Derived.Test.YtkbfceahhginhaaRRRRDoorRRRRBytes
import Derived.Test.YtkbfceahhginhaaRRRRDoorRRRRDraw3
import Derived.Test.YtkbfceahhginhaaRRRRDoorRRRRLawV
namespace Go.Proofs.YtkbfceahhginhaaRRRRDoorRRRR
open Go.RowKit
set_option maxRecDepth 100000

namespace pl
theorem signs_wo {s : ByteArray} {n : Nat} (h : gt s = n) : bs (without (s.extract 0 n).data.toList 62) = ⟨#[]⟩ := by
  subst h
  have e : (s.extract 0 (gt s)).data.toList = s.data.toList.take (gt s) := by rw [Lib.extract_data]; simp
  rw [e]
  have h2 : without (s.data.toList.take (gt s)) 62 = [] := by
    unfold without
    rw [List.filter_eq_nil_iff]
    intro c hc
    rw [gtL_take _ c hc]; simp
  rw [h2]; rfl
theorem ex_full (t : ByteArray) : t.extract 0 t.size = t := by simp
end pl

set_option maxHeartbeats 2000000 in
theorem dUnquoteLine_any (a : Option Addr) (len cap : Nat) (zs : List Int) (w : World) (hr : IsRow .u8 w a len cap zs) :
    Calls Tryd.prog 18 #[.slice a len cap] w fun e w' => ∃ (s : ByteArray), e = .returned (.string s) ∧ s.size ≤ 210 ∧ Below w.heap.size w w' := by
  go_enter Tryd.func18, Tryd.ntmps18
  go_wp2_with fail
  refine (newReader_any a len cap zs _ hr).mono ?_
  rintro e w1 ⟨n, c, rfl, hR, hb1⟩
  go_wp2_with fail
  refine (of_lit 3 7 _ rfl (by omega) (by omega) ?_ _ _ n c 0 a _ hR (by omega)).mono ?_
  · simp [okStrs, ByteArray.size_mk']
  rintro e w2 ⟨s2, rfl, hs2, p2, hp2, hR2, hg2⟩
  have b2 := Lib.hid (hb1.grown hg2 hb1.size (fun k hk => by cases hk; exact Nat.le_refl _))
  go_wp2_with fail
  refine (of_lit 1 3 _ rfl (by omega) (by omega) ?_ _ _ n c p2 a _ hR2 (by omega)).mono ?_
  · simp [okStrs, ByteArray.size_mk']
  rintro e w3 ⟨s3, rfl, hs3, p3, hp3, hR3, hg3⟩
  have b3 := Lib.hid (b2.out.grown hg3 b2.out.size (fun k hk => by cases hk; exact Nat.le_refl _))
  go_wp2_with fail
  refine (someText_any _ _ n c p3 a _ hR3 (by omega)).mono ?_
  rintro e w4 ⟨s4, rfl, hs4, p4, hp4, hR4, hg4⟩
  have b4 := Lib.hid (b3.out.grown hg4 b3.out.size (fun k hk => by cases hk; exact Nat.le_refl _))
  go_wp2_with fail
  go_ret
  exact ⟨_, rfl, by simp only [ByteArray.size_append]; omega, b4.out⟩

set_option maxHeartbeats 4000000 in
theorem fnUnquoteLine_walk (a : Option Addr) (len cap : Nat) (zs : List Int) (w : World) (hr : IsRow .u8 w a len cap zs) :
    Calls Tryd.prog 5 #[.slice a len cap] w fun e w' => e = .returned (.bool true) ∧ Below w.heap.size w w' := by
  have hlen := row_len hr
  by_cases hb : 1048576 < len
  · go_enter Tryd.func5, Tryd.ntmps5
    go_wp2
    go_ret
    exact ⟨rfl, Below.refl _ _⟩
  · go_enter Tryd.func5, Tryd.ntmps5
    go_wp2_with fail
    refine (dUnquoteLine_any a len cap zs _ hr).mono ?_
    rintro e w1 ⟨s, rfl, hs, hb1⟩
    have hsm : s.size ≤ maxLen := by unfold maxLen; omega
    go_wp2_with fail
    refine (iUnquoteLine_any s _ hsm).mono ?_
    rintro e w2 ⟨rfl, hb2⟩
    have b2 := Lib.hid (hb1.trans (hb2.mono hb1.size))
    clear hb1 hb2
    by_cases hv : pl.validT s.data.toList = true
    · obtain ⟨t, HT⟩ : ∃ t, Hid (pl.unqB s = t) := ⟨_, Lib.hid rfl⟩
      obtain ⟨n, HN⟩ : ∃ n, Hid (pl.gt s = n) := ⟨_, Lib.hid rfl⟩
      have h1 : Hid (pl.gtR s = (n : Int)) := Lib.hid (by rw [pl.gtR_yes hv, HN.out])
      have h2 : Hid (pl.unqR s = t) := Lib.hid (by rw [pl.unqR_yes hv, HT.out])
      have hle : n ≤ s.size := by rw [← HN.out]; exact pl.gt_le s
      have hwo := Lib.hid (pl.signs_wo HN.out)
      have hex0 : (s.extract 0 n).size ≤ 1000000 := by rw [pl.ex_bs, pl.bs_size, pl.seg_len hle]; omega
      clear hv
      rw [h1.out, h2.out]
      go_wp2_with fail
      refine (sUnquoteLine_any s _ hsm).mono ?_
      rintro e w3 ⟨rfl, hb3⟩
      have b3 := Lib.hid (b2.out.trans (hb3.mono b2.out.size))
      clear hb3
      rw [h1.out, h2.out]
      rcases pl.uk_cases s with hk | ⟨hg0, hk, hk2, hk3⟩
      · have hsz := pl.unq_size s
        rw [HT.out, hk, HN.out] at hsz
        have hkn : (s.size : Int) - (t.size : Int) = n := by omega
        have hext : s.extract n s.size = t := by
          rw [← HT.out]; unfold pl.unqB; rw [hk, HN.out]; exact pl.ex_drop62
        clear hsz hk
        by_cases hlt : n < s.size
        · have h62 : (((s[n].toNat : Nat) : Int) != 62) = true := by
            have := pl.gt_stop (s := s) (by rw [HN.out]; exact hlt)
            simp only [HN.out] at this
            have := pl.byte_ne62 this
            simpa using this
          have he : ((n : Int) == (s.size : Int)) = false := by simp; omega
          go_wp2_with fail
          refine (without_at _ 62 62 rfl _ hex0).mono ?_
          rintro e w' ⟨rfl, rfl⟩
          rw [hwo.out]
          go_wp2_with fail
          go_ret
          exact ⟨rfl, b3.out⟩
        · have he : ((n : Int) == (s.size : Int)) = true := by simp; omega
          clear hlt
          go_wp2_with fail
          refine (without_at _ 62 62 rfl _ hex0).mono ?_
          rintro e w' ⟨rfl, rfl⟩
          rw [hwo.out]
          go_wp2_with fail
          go_ret
          exact ⟨rfl, b3.out⟩
      · have hsz := pl.unq_size s
        rw [HT.out, hk, HN.out] at hsz
        have hlt : n < s.size := by rw [← HN.out]; exact hk2
        have hkn : (s.size : Int) - (t.size : Int) = (n : Int) + 1 := by omega
        have hg : (0 : Int) < (n : Int) := by rw [HN.out] at hg0; omega
        have hext : s.extract (n + 1) s.size = t := by
          rw [← HT.out]; unfold pl.unqB; rw [hk, HN.out]; exact pl.ex_drop62
        have h32 : (s[n].toNat : Int) = 32 := by
          simp only [HN.out] at hk3
          rw [hk3]; rfl
        clear hsz hk hk2 hk3 hg0
        go_wp2_with fail
        refine (without_at _ 62 62 rfl _ hex0).mono ?_
        rintro e w' ⟨rfl, rfl⟩
        rw [hwo.out]
        go_wp2_with fail
        go_ret
        exact ⟨rfl, b3.out⟩
    · have hv' : pl.validT s.data.toList = false := by simpa using hv
      have h1 := Lib.hid (pl.gtR_no hv')
      have h2 := Lib.hid (pl.unqR_no hv')
      clear hv hv'
      rw [h1.out, h2.out]
      go_wp2_with fail
      refine (sUnquoteLine_any s _ hsm).mono ?_
      rintro e w3 ⟨rfl, hb3⟩
      have b3 := Lib.hid (b2.out.trans (hb3.mono b2.out.size))
      clear hb3
      rw [h1.out, h2.out]
      go_wp2_with fail
      go_ret
      exact ⟨rfl, b3.out⟩
end Go.Proofs.YtkbfceahhginhaaRRRRDoorRRRR
