/- Contracts: texts joined (the model's join, the laws' joined). -/
import Derived.Test.YtckfpneooknifaaPkB
import Derived.Lib.Hide
import Derived.Outline
namespace Go.Proofs.Ytckfpneooknifaa
open Go.RowKit
set_option maxRecDepth 100000

set_option maxHeartbeats 1000000 in
theorem joined_any (l : List ByteArray) (mid : ByteArray) (v : Value) (w : World) (hr : RStrs w v l) (hl : l.length ≤ 2000000) (hsz : (pl.joinB l mid).size ≤ 1000000000000) :
    Calls Try.prog 21 #[v, .string mid] w fun e w' => e = .returned (.string (pl.joinB l mid)) ∧ w = w' := by
  rcases hr with ⟨hz, a, cap, rfl⟩ | ⟨hpos, b1, o1, c1, rfl, hb1, hc1⟩
  · have he := Lib.hid (show pl.joinB l mid = pl.bs [] by rw [hz]; rfl)
    clear hz hl hsz
    go_enter Try.func21, Try.ntmps21
    go_wp2
    refine wp_loop_rounds 1 ?_
    rw [rounds_succ]
    go_wp2
    go_ret
    exact ⟨by rw [he.out]; rfl, rfl⟩
  · obtain ⟨n, hn⟩ : ∃ n, n = l.length := ⟨_, rfl⟩
    rw [← hn] at hl hpos hc1 ⊢
    have HN := Lib.hid hn
    have HC := Lib.hid hc1
    clear hn hc1
    go_enter Try.func21, Try.ntmps21
    go_wp2
    go_loop [5, 6] (fun out i => ∃ (k : Nat) (o : ByteArray), k ≤ n ∧ out = .string o ∧ i = .int .i64 k ∧ Hid (o = pl.jn l mid k)) (fun _ i => n - (intOf i).toNat)
    case atStart => exact ⟨0, _, Nat.zero_le _, rfl, rfl, Lib.hid (pl.jn_zero l mid).symm⟩
    case round =>
      obtain ⟨k, o, hk, rfl, rfl, ho⟩ := hrel
      by_cases hlt : k < n
      · have hx := HC.out k hlt
        obtain ⟨x, HX⟩ : ∃ x, Hid (x = nth l k) := ⟨_, Lib.hid rfl⟩
        rw [← HX.out] at hx
        by_cases h0 : 0 < k
        · have h0i : (0 : Int) < (k : Int) := by omega
          have hs := Lib.hid ((pl.jn_succ mid h0 (by rw [← HN.out]; exact hlt)).trans (by rw [← ho.out, ← HX.out]))
          have hz : o.size + mid.size + x.size ≤ 1000000000000 := by
            have h1 := pl.jn_le_all (l := l) mid (k := k + 1) (by rw [← HN.out]; omega)
            rw [hs.out, ByteArray.size_append, ByteArray.size_append] at h1
            omega
          go_wp2
          go_round
          case rel => exact ⟨k + 1, _, by omega, rfl, by go_num, Lib.hid hs.out.symm⟩
          case measure => simp [intOf]; omega
        · obtain rfl : k = 0 := by omega
          rw [Nat.add_zero] at hx
          have hs := Lib.hid ((pl.jn_one mid (by rw [← HN.out]; exact hlt)).trans HX.out.symm)
          have ho' : o = pl.bs [] := ho.out.trans (pl.jn_zero l mid)
          have hz : x.size ≤ 1000000000000 := by
            have h1 := pl.jn_le_all (l := l) mid (k := 1) (by rw [← HN.out]; omega)
            rw [hs.out] at h1
            omega
          subst ho'
          have hbz : (pl.bs []).size ≤ 0 := Nat.le_refl _
          go_wp2
          go_round
          case rel => exact ⟨1, _, by omega, rfl, by go_num, Lib.hid (by rw [hs.out]; exact pl.nil_app x)⟩
          case measure => simp [intOf]; omega
      · obtain rfl : k = n := by omega
        have hs := Lib.hid (show o = pl.joinB l mid from ho.out.trans (by rw [HN.out]; exact pl.jn_all l mid))
        go_wp2
        go_ret
        exact ⟨by rw [← hs.out]; rfl, rfl⟩
end Go.Proofs.Ytckfpneooknifaa
