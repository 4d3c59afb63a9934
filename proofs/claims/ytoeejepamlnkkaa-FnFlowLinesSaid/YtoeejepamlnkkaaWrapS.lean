/- Contracts: WrapWords, the model's side. -/
import Derived.Test.YtoeejepamlnkkaaWrap
namespace Go.Proofs.Ytoeejepamlnkkaa
open Go.RowKit
set_option maxRecDepth 100000

set_option maxHeartbeats 1000000 in
theorem fitAll_any (l : List ByteArray) (wd : Int) (v : Value) (w : World) (hr : RStrs w v l) (hlen : l.length ≤ maxLen) (hsz : ∀ i, i < l.length → (nth l i).size ≤ maxLen) :
    Calls Try.prog 65 #[v, .int .i64 wd] w fun e w' => e = .returned (.bool (pl.fitA l wd)) ∧ w = w' := by
  have hlen' := hlen
  unfold maxLen at hlen'
  obtain ⟨n, hn⟩ : ∃ n, n = l.length := ⟨_, rfl⟩
  have HN := Lib.hid hn
  have HSZ := Lib.hid hsz
  have HL := Lib.hid hlen
  have hrr := Lib.hid hr
  have hr0 := Lib.hid hr
  obtain ⟨a0, cap0, rfl⟩ := hr.slice
  rw [← hn] at hlen' hrr hr0 ⊢
  clear hn hr hlen hsz
  go_enter Try.func65, Try.ntmps65
  go_wp2_with fail
  go_loop [5] (fun iv => ∃ k : Nat, k ≤ n ∧ iv = .int .i64 k ∧ Hid (∀ i, i < k → ((nth l i).size : Int) ≤ wd)) (fun iv => n - (intOf iv).toNat)
  case atStart => exact ⟨0, Nat.zero_le _, rfl, Lib.hid (fun i h => absurd h (by omega))⟩
  case round =>
    obtain ⟨k, hk, rfl, hsh⟩ := hrel
    by_cases hlt : k < n
    · obtain ⟨b1, o1, rfl, hx⟩ := hrr.out.at HN.out (Below.refl _ _) hlt
      have hxm := HSZ.out k (by rw [← HN.out]; exact hlt)
      unfold maxLen at hxm
      obtain ⟨x, HX⟩ : ∃ x, Hid (nth l k = x) := ⟨_, Lib.hid rfl⟩
      rw [HX.out] at hx hxm
      by_cases hlong : wd < (x.size : Int)
      · have hb := Lib.hid (pl.fitA_no (l := l) (wd := wd) (.inr (.inr (pl.shortAll_no (k := k) (by rw [← HN.out]; exact hlt) (by rw [HX.out]; exact hlong)))))
        go_wp2_with fail
        go_ret
        exact ⟨ret_b hb.out.symm, rfl⟩
      · have hsh2 : Hid (∀ i, i < k + 1 → ((nth l i).size : Int) ≤ wd) := Lib.hid (fun i hi => by
          by_cases e : i = k
          · subst e; rw [HX.out]; omega
          · exact hsh.out i (by omega))
        go_wp2_with fail
        go_round
        case rel => exact ⟨k + 1, by omega, by go_num, hsh2⟩
        case measure => simp [intOf]; omega
    · obtain rfl : k = n := by omega
      have hs := Lib.hid (pl.shortAll_yes (l := l) (wd := wd) (by rw [← HN.out]; exact hsh.out))
      by_cases hv : pl.vWords l = true
      · have hb : Hid (pl.inR wd 1 120 = pl.fitA l wd) := Lib.hid (by unfold pl.fitA; rw [hs.out, hv]; rfl)
        go_wp2_with fail
        refine (svalidWords_any l _ _ hr0.out HL.out HSZ.out).mono ?_
        rintro e w' ⟨rfl, rfl⟩
        rw [hv]
        go_wp2_with fail
        refine (inRange_any _ _ _ _).mono ?_
        rintro e w' ⟨rfl, rfl⟩
        go_wp2_with fail
        go_ret
        exact ⟨ret_b hb.out, rfl⟩
      · have hv' : pl.vWords l = false := by simpa using hv
        have hb := Lib.hid (pl.fitA_no (l := l) (wd := wd) (.inl hv'))
        clear hv
        go_wp2_with fail
        refine (svalidWords_any l _ _ hr0.out HL.out HSZ.out).mono ?_
        rintro e w' ⟨rfl, rfl⟩
        rw [hv']
        go_wp2_with fail
        go_ret
        exact ⟨ret_b hb.out.symm, rfl⟩

namespace pl
/-- what holds behind k words: the lines that are closed, and the one that is open -/
def GInv (wd : Int) (l : List ByteArray) (k : Nat) (out : List ByteArray) (now : ByteArray) : Prop :=
  (k = 0 ∧ out = [] ∧ now = bs []) ∨ ∃ d c, greedy wd l k = d ++ [c] ∧ c ≠ [] ∧ out = d.map jline ∧ now = jline c
theorem ginv_first {wd : Int} {l : List ByteArray} {out : List ByteArray} {now x : ByteArray} (h : GInv wd l 0 out now) (hx : nth l 0 = x) : GInv wd l 1 out x := by
  rcases h with ⟨_, h1, _⟩ | ⟨d, c, h1, _⟩
  · exact .inr ⟨[], [nth l 0], greedy_first wd l, by simp, by rw [h1]; rfl, by rw [hx]; unfold jline; rw [joinB_one]⟩
  · have : greedy wd l 0 = [] := rfl
    rw [this] at h1; simp at h1
theorem ginv_more {wd : Int} {l : List ByteArray} {k : Nat} {out : List ByteArray} {now x : ByteArray} (h : GInv wd l k out now) (h0 : 0 < k) (hx : nth l k = x) (hf : (now.size : Int) + 1 + x.size ≤ wd) : GInv wd l (k + 1) out (now ++ sp1 ++ x) := by
  rcases h with ⟨h, _⟩ | ⟨d, c, h1, h2, h3, h4⟩
  · omega
  · have e := greedy_more d c h1 (by rw [hx]; rw [h4] at hf; exact hf)
    exact .inr ⟨d, c ++ [nth l k], e, by simp, h3, by rw [h4, hx]; unfold jline; rw [joinB_snoc h2]⟩
theorem ginv_new {wd : Int} {l : List ByteArray} {k : Nat} {out : List ByteArray} {now x : ByteArray} (h : GInv wd l k out now) (h0 : 0 < k) (hx : nth l k = x) (hf : ¬ (now.size : Int) + 1 + x.size ≤ wd) : GInv wd l (k + 1) (out ++ [now]) x := by
  rcases h with ⟨h, _⟩ | ⟨d, c, h1, h2, h3, h4⟩
  · omega
  · have e := greedy_new d c h1 (by rw [hx]; rw [h4] at hf; exact hf)
    refine .inr ⟨d ++ [c], [nth l k], e, by simp, ?_, by rw [hx]; unfold jline; rw [joinB_one]⟩
    rw [h3, h4, List.map_append]; rfl
theorem ginv_done {wd : Int} {l : List ByteArray} {out : List ByteArray} {now : ByteArray} (h : GInv wd l l.length out now) (h0 : 0 < l.length) : out ++ [now] = wrapB wd l := by
  rcases h with ⟨h, _⟩ | ⟨d, c, h1, h2, h3, h4⟩
  · omega
  · unfold wrapB; rw [h1, h3, h4, List.map_append]; rfl
theorem ginv_len {wd : Int} {l : List ByteArray} {k : Nat} {out : List ByteArray} {now : ByteArray} (h : GInv wd l k out now) : out.length ≤ k := by
  rcases h with ⟨h, h1, _⟩ | ⟨d, c, h1, h2, h3, h4⟩
  · rw [h1]; simp
  · have := grW_len (opG wd) l k
    have h5 : (greedy wd l k).length ≤ k := this
    rw [h1] at h5
    rw [h3, List.length_map]; simp at h5; omega
theorem ginv_now {wd : Int} {l : List ByteArray} {k : Nat} {out : List ByteArray} {now : ByteArray} (h : GInv wd l k out now) (hk : k ≤ l.length) (h12 : ∀ x ∈ l, x.size ≤ 12) : now.size ≤ 13 * k := by
  rcases h with ⟨h, _, h1⟩ | ⟨d, c, h1, h2, h3, h4⟩
  · rw [h1, bs_size]; simp
  · have hm : c ∈ greedy wd l k := by rw [h1]; simp
    have hfl := greedy_flat wd l k hk
    have hb := szJ_bound c (fun y hy => h12 y (by
      have : y ∈ (greedy wd l k).flatten := List.mem_flatten.2 ⟨c, hm, hy⟩
      rw [hfl] at this
      exact List.mem_of_mem_take this))
    have hc := mem_len_flatten hm
    rw [hfl, List.length_take] at hc
    rw [h4, jline_size]; omega
end pl

set_option maxHeartbeats 1000000 in
theorem sgreedy_any (l : List ByteArray) (wd : Int) (v : Value) (w : World) (hr : RStrs w v l) (hlen : l.length ≤ 9) (hs12 : ∀ x ∈ l, x.size ≤ 12) :
    Calls Try.prog 66 #[v, .int .i64 wd] w fun e w' => ∃ v', e = .returned v' ∧ OStrs w.heap.size w' v' (pl.wrapB wd l) ∧ Below w.heap.size w w' := by
  obtain ⟨i0, hi, hz0, hz1, hz2⟩ := info_parts infoS
  obtain ⟨n, hn⟩ : ∃ n, n = l.length := ⟨_, rfl⟩
  have HN := Lib.hid hn
  have H12 := Lib.hid hs12
  have hrr := Lib.hid hr
  obtain ⟨a0, cap0, rfl⟩ := hr.slice
  rw [← hn] at hlen hrr ⊢
  clear hn hr hs12
  go_enter Try.func66, Try.ntmps66
  go_wp2_with fail
  go_loopw [5, 6, 7] (fun vv nw iv wr => ∃ (k : Nat) (out : List ByteArray) (now : ByteArray), k ≤ n ∧ iv = .int .i64 k ∧ nw = .string now ∧ Hid (pl.GInv wd l k out now) ∧ OStrs w.heap.size wr vv out ∧ Below w.heap.size w wr) (fun _ _ iv _ => n - (intOf iv).toNat)
  case atStart => exact ⟨0, [], _, Nat.zero_le _, rfl, rfl, Lib.hid (.inl ⟨rfl, rfl, rfl⟩), World.ownsRow_made _ _ _ (Nat.le_refl _) (by unfold maxLen; omega) rfl, (Below.refl _ _).alloc (Nat.le_refl _) _⟩
  case round =>
    obtain ⟨k, out, now, hk, rfl, rfl, hinv, hown, hbel⟩ := hrel
    have hol := pl.ginv_len hinv.out
    have hnw := pl.ginv_now hinv.out (by rw [← HN.out]; exact hk) H12.out
    by_cases hlt : k < n
    · obtain ⟨b1, o1, rfl, hx⟩ := hrr.out.at HN.out hbel hlt
      obtain ⟨x, HX⟩ : ∃ x, Hid (nth l k = x) := ⟨_, Lib.hid rfl⟩
      have hx12 : x.size ≤ 12 := by
        rw [← HX.out, nth_eq (by rw [← HN.out]; exact hlt)]
        exact H12.out _ (List.getElem_mem _)
      rw [HX.out] at hx
      by_cases h0 : k = 0
      · subst h0
        have hn2 : Hid (pl.GInv wd l 1 out x) := Lib.hid (pl.ginv_first hinv.out HX.out)
        rw [Nat.add_zero] at hx
        clear hinv
        go_wp2_with fail
        go_roundw
        case rel => exact ⟨1, out, x, by omega, by go_num, rfl, hn2, hown, hbel⟩
        case measure => simp [intOf]; omega
      · have h0i : ¬ (k : Int) = 0 := by omega
        by_cases hf : (now.size : Int) + 1 + x.size ≤ wd
        · have hn2 : Hid (pl.GInv wd l (k + 1) out (now ++ pl.sp1 ++ x)) := Lib.hid (pl.ginv_more hinv.out (by omega) HX.out hf)
          clear hinv
          go_wp2_with fail
          go_roundw
          case rel => exact ⟨k + 1, out, _, by omega, by go_num, rfl, hn2, hown, hbel⟩
          case measure => simp [intOf]; omega
        · have hn2 : Hid (pl.GInv wd l (k + 1) (out ++ [now]) x) := Lib.hid (pl.ginv_new hinv.out (by omega) HX.out hf)
          clear hinv
          go_wp2_with (at_builtin; refine wpList_append_own _ rfl _ _ 23 rfl w.heap.size 9 i0 (.string ByteArray.empty) 1 16 Try.underlying23 hi hz0 hz1 hz2 rfl (by decide) _ _ _ rfl (World.ownsRow.alloc hown _) ⟨wr.heap.size, 0, none⟩ 1 1 [.string now] rfl rfl ?c1 ?c2 ?c3 ?c4 ?c5 ?_)
          case c2 => rfl
          case c3 => unfold maxLen; omega
          case c4 => omega
          case c5 => have := hbel.size; simp; omega
          intro v' w1 hown' hgrow _
          have hb1 : Below w.heap.size w w1 := (hbel.alloc hbel.size _).grown hgrow (by have := hbel.size; simp; omega) (fun g hg => (World.ownsRow.lt hown g hg).1)
          have hown1 := OStrs.push1 hown'
          have hx1 : w1.cell? ⟨b1, o1 + k, none⟩ = some (.string x) := by
            obtain ⟨b2, o2, e, h⟩ := hrr.out.at HN.out hb1 hlt
            simp only [Option.some.injEq, Addr.mk.injEq, and_true] at e
            obtain ⟨rfl, rfl⟩ := e
            rw [HX.out] at h; exact h
          clear hown' hgrow hown hbel
          go_wp2_with fail
          go_roundw
          case rel => exact ⟨k + 1, _, x, by omega, by go_num, rfl, hn2, hown1, hb1⟩
          case measure => simp [intOf]; omega
    · obtain rfl : k = n := by omega
      by_cases h0 : k = 0
      · have he : Hid (out = pl.wrapB wd l) := Lib.hid (by
          have h1 := HN.out
          rw [h0] at h1
          have h2 : l = [] := List.length_eq_zero_iff.1 h1.symm
          rcases hinv.out with ⟨_, h3, _⟩ | ⟨d, c, h3, _⟩
          · rw [h3, h2]; rfl
          · rw [h0] at h3; simp [pl.greedy, pl.grW] at h3)
        have h0i : ¬ (0 : Int) < (k : Int) := by omega
        clear hinv h0
        go_wp2_with fail
        go_ret
        exact ⟨_, rfl, by rw [← he.out]; exact hown, hbel⟩
      · have he : Hid (out ++ [now] = pl.wrapB wd l) := Lib.hid (pl.ginv_done (by rw [← HN.out]; exact hinv.out) (by rw [← HN.out]; omega))
        have h0i : (0 : Int) < (k : Int) := by omega
        clear hinv
        go_wp2_with (at_builtin; refine wpList_append_own _ rfl _ _ 23 rfl w.heap.size 9 i0 (.string ByteArray.empty) 1 16 Try.underlying23 hi hz0 hz1 hz2 rfl (by decide) _ _ _ rfl (World.ownsRow.alloc hown _) ⟨wr.heap.size, 0, none⟩ 1 1 [.string now] rfl rfl ?d1 ?d2 ?d3 ?d4 ?d5 ?_)
        case d1 => exact cell_one_new _ _ _
        case d2 => intro u hu; simp at hu; subst hu; rfl
        case d3 => unfold maxLen; omega
        case d4 => omega
        case d5 => have := hbel.size; simp; omega
        intro v' w1 hown' hgrow _
        have hb1 : Below w.heap.size w w1 := (hbel.alloc hbel.size _).grown hgrow (by have := hbel.size; simp; omega) (fun g hg => (World.ownsRow.lt hown g hg).1)
        have hown1 := OStrs.push1 hown'
        rw [he.out] at hown1
        clear hown' hgrow hown hbel
        go_wp2_with fail
        go_ret
        exact ⟨_, rfl, hown1, hb1⟩

end Go.Proofs.Ytoeejepamlnkkaa
