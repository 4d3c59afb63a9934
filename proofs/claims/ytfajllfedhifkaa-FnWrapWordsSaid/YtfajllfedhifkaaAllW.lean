/- Contracts: the laws' allWords and longest. -/
import Derived.Test.YtfajllfedhifkaaPlainD
import Derived.Test.YtfajllfedhifkaaWordsV
import Derived.Test.YtfajllfedhifkaaPlainL
import Derived.Test.YtfajllfedhifkaaFuller
import Derived.Test.YtfajllfedhifkaaWords
import Derived.Test.YtfajllfedhifkaaWrap
namespace Go.Proofs.Ytfajllfedhifkaa
open Go.RowKit
set_option maxRecDepth 100000
namespace pl
theorem words_line {g : List ByteArray} (h : ∀ x ∈ g, wordOK x = true) (hs : szJ g ≤ 120) : wordsOf (jline g) = g := by
  have hd : (jline g).data.toList = Lib.join (toL g) [32] := rfl
  have hwb : ∀ y ∈ toL g, y.all wb = true ∧ y ≠ [] := by
    intro y hy
    obtain ⟨x, hx, rfl⟩ := List.mem_map.1 hy
    have hp := wordOK_parts (h x hx)
    refine ⟨hp.2.2, fun e => ?_⟩
    have := congrArg List.length e
    rw [len_eq, List.length_nil] at this
    omega
  have hv : validT (jline g).data.toList = true := by
    unfold validT
    rw [Bool.and_eq_true]
    refine ⟨?_, decide_eq_true (by rw [len_eq, jline_size]; exact hs)⟩
    rw [hd]
    refine join_all plainB (by decide) _ (fun y hy => ?_)
    rw [List.all_eq_true]
    intro c hc
    exact (wb_plain ((List.all_eq_true.1 (hwb y hy).1) c hc)).1
  rw [wordsOf_ok hv]
  unfold wordsB
  rw [hd, wordsL_join (fun y hy => ⟨(hwb y hy).2, fun c hc => (wb_plain ((List.all_eq_true.1 (hwb y hy).1) c hc)).2⟩)]
  unfold toL
  rw [List.map_map]
  have : (bs ∘ fun x : ByteArray => x.data.toList) = id := by funext x; exact bs_self x
  rw [this, List.map_id]
theorem vWords_mem {l : List ByteArray} (h : vWords l = true) : ∀ x ∈ l, wordOK x = true := by
  intro x hx
  obtain ⟨i, hi, rfl⟩ := mem_nth hx
  exact (vWords_parts h).2 i hi
end pl

theorem ostrs_cells {B : Nat} {w : World} {g n cap : Nat} {l : List ByteArray} (h : OStrs B w (.slice (some ⟨g, 0, none⟩) n cap) l) (hn : n = l.length) : ∀ j u, (l.map Value.string)[j]? = some u → w.cell? ((⟨g, 0, none⟩ : Addr).add j) = some u := fun j u hu => by
  have hadd : (⟨g, 0, none⟩ : Addr).add j = ⟨g, j, none⟩ := by unfold Addr.add; split <;> simp_all
  have hj : j < l.length := by
    have := (List.getElem?_eq_some_iff.1 hu).1
    simpa using this
  unfold OStrs at h
  rw [← hn] at h
  rw [hadd, World.ownsRow.cellAt h j (by omega)]
  exact hu
theorem ostrs_app {B : Nat} {w : World} {v : Value} {a b : List ByteArray} {n : Nat} (h : w.ownsRow B 9 1 v n (a.map Value.string ++ b.map Value.string)) (hn : n = (a ++ b).length) : OStrs B w v (a ++ b) := by
  unfold OStrs
  rw [← hn, List.map_append]; exact h

set_option maxHeartbeats 2000000 in
theorem allWords_any (gs : pl.Gs) (v : Value) (w : World) (hr : RStrs w v (gs.map pl.jline)) (hne : ∀ g ∈ gs, g ≠ []) (hok : ∀ x ∈ gs.flatten, pl.wordOK x = true) (h9 : gs.flatten.length ≤ 9) (hsz : ∀ g ∈ gs, pl.szJ g ≤ 120) :
    Calls Try.prog 22 #[v] w fun e w' => ∃ v', e = .returned v' ∧ OStrs w.heap.size w' v' gs.flatten ∧ Below w.heap.size w w' := by
  obtain ⟨i0, hi, hz0, hz1, hz2⟩ := info_parts infoS
  obtain ⟨n, hn⟩ : ∃ n, n = (gs.map pl.jline).length := ⟨_, rfl⟩
  have hn2 : n = gs.length := by rw [hn, List.length_map]
  have hn9 : n ≤ 9 := by have := flat_len (rfl : gs.flatten = gs.flatten) hne; omega
  have HN := Lib.hid hn
  have HN2 := Lib.hid hn2
  have HNE := Lib.hid hne
  have HOK := Lib.hid hok
  have HSZ := Lib.hid hsz
  have H9 := Lib.hid h9
  have hrr := Lib.hid hr
  obtain ⟨a0, cap0, rfl⟩ := hr.slice
  rw [← hn] at hrr ⊢
  clear hn hr hne hok hsz hn2 h9
  go_enter Try.func22, Try.ntmps22
  go_wp2_with fail
  go_loopw [3, 4] (fun ov iv wr => ∃ (k : Nat), k ≤ n ∧ iv = .int .i64 k ∧ OStrs w.heap.size wr ov (gs.take k).flatten ∧ Below w.heap.size w wr) (fun _ iv _ => n - (intOf iv).toNat)
  case atStart => exact ⟨0, Nat.zero_le _, rfl, World.ownsRow_made _ _ _ (Nat.le_refl _) (by unfold maxLen; omega) rfl, (Below.refl _ _).alloc (Nat.le_refl _) _⟩
  case round =>
    obtain ⟨k, hk, rfl, hown, hbel⟩ := hrel
    by_cases hlt : k < n
    · obtain ⟨b1, o1, rfl, hx⟩ := hrr.out.at HN.out hbel hlt
      obtain ⟨g, hg⟩ : ∃ g, Hid (gs[k]? = some g) := ⟨gs[k]'(by rw [← HN2.out]; exact hlt), Lib.hid (List.getElem?_eq_getElem _)⟩
      have hgm : g ∈ gs := List.mem_of_getElem? hg.out
      obtain ⟨J, hJ⟩ : ∃ J, Hid (pl.jline g = J) := ⟨_, Lib.hid rfl⟩
      have hnth : nth (gs.map pl.jline) k = J := by
        unfold nth
        rw [List.getD_eq_getElem?_getD, List.getElem?_map, hg.out, ← hJ.out]; rfl
      rw [hnth] at hx
      have hJs : J.size ≤ 120 := by rw [← hJ.out, pl.jline_size]; exact HSZ.out g hgm
      have hwo : Hid (pl.wordsOf J = g) := Lib.hid (by
        rw [← hJ.out]
        exact pl.words_line (fun x hx => HOK.out x (List.mem_flatten.2 ⟨g, hgm, hx⟩)) (HSZ.out g hgm))
      have hgl : 0 < g.length := List.length_pos_iff.2 (HNE.out g hgm)
      have hstep : (gs.take k).flatten ++ g = (gs.take (k + 1)).flatten := by
        obtain ⟨h1, h2⟩ := List.getElem?_eq_some_iff.1 hg.out
        rw [List.take_succ_eq_append_getElem h1, List.flatten_append, h2]; simp
      have hlen2 : (gs.take k).flatten.length + g.length ≤ 9 := by
        have h1 := congrArg List.length hstep
        rw [List.length_append] at h1
        have h2 : (gs.take (k + 1)).flatten.length ≤ gs.flatten.length := by
          conv => rhs; rw [← List.take_append_drop (k + 1) gs, List.flatten_append, List.length_append]
          omega
        have := H9.out
        omega
      have HST := Lib.hid hstep
      obtain ⟨D, hD⟩ : ∃ D, Hid ((gs.take k).flatten = D) := ⟨_, Lib.hid rfl⟩
      rw [hD.out] at hown hlen2
      clear hstep hnth hgm
      have hJm : J.size ≤ maxLen := by unfold maxLen; omega
      go_wp2_with fail
      refine (iWordsOf_any J _ hJm).mono ?_
      rintro e w2 ⟨v2, rfl, ho2, hb2⟩
      rw [hwo.out] at ho2
      have hown2 := hown.below (Nat.le_refl _) hb2
      have hbel2 := hbel.trans (hb2.mono hbel.size)
      have ho3 := ho2
      rcases ho3.2 with ⟨_, hz⟩ | ⟨g2, cap2, cur2, rfl, hB2, hg2, hle2, hm2, hs2, htake2⟩
      · omega
      have HC := Lib.hid (ostrs_cells ho2 rfl)
      clear hg2 hs2 htake2 ho3 hown
      go_wp2_with (at_builtin; refine wpList_append_own _ rfl _ _ 23 rfl w.heap.size 9 i0 (.string ByteArray.empty) 1 16 Try.underlying23 hi hz0 hz1 hz2 rfl (by decide) _ _ _ rfl hown2 ⟨g2, 0, none⟩ g.length cap2 (g.map Value.string) rfl (by simp) HC.out ?cB2 ?cB3 ?cB4 ?cB5 ?_)
      case cB2 => intro u hu; rw [List.mem_map] at hu; obtain ⟨s, _, rfl⟩ := hu; rfl
      case cB3 => unfold maxLen; omega
      case cB4 => omega
      case cB5 => exact hbel2.size
      intro v3 w3 hown' hgrow _
      have hb3 : Below w.heap.size w w3 := hbel2.grown hgrow hbel2.size (fun g hg => (World.ownsRow.lt hown2 g hg).1)
      have ho4 := ostrs_app hown' (by rw [List.length_append])
      rw [← hD.out, HST.out] at ho4
      clear hown' hgrow hown2 hbel2
      go_wp2_with fail
      go_roundw
      case rel => exact ⟨k + 1, by omega, by go_num, ho4, hb3⟩
      case measure => simp [intOf]; omega
    · obtain rfl : k = n := by omega
      have he : Hid ((gs.take k).flatten = gs.flatten) := Lib.hid (by rw [HN2.out, List.take_length])
      go_wp2_with fail
      go_ret
      exact ⟨_, rfl, by rw [← he.out]; exact hown, hbel⟩

set_option maxHeartbeats 1000000 in
theorem longest_any (es : List ByteArray) (wd : Int) (v : Value) (w : World) (hr : RStrs w v es) (hlen : es.length ≤ 1000) (h0 : 0 ≤ wd) (hs : ∀ i, i < es.length → ((nth es i).size : Int) ≤ wd) :
    Calls Try.prog 23 #[v] w fun e w' => (∃ m : Int, e = .returned (.int .i64 m) ∧ m ≤ wd) ∧ w = w' := by
  obtain ⟨n, hn⟩ : ∃ n, n = es.length := ⟨_, rfl⟩
  have HN := Lib.hid hn
  have HS := Lib.hid hs
  have hrr := Lib.hid hr
  obtain ⟨a0, cap0, rfl⟩ := hr.slice
  rw [← hn] at hrr hlen ⊢
  clear hn hr hs
  go_enter Try.func23, Try.ntmps23
  go_wp2_with fail
  go_loop [3, 4] (fun ov iv => ∃ (k : Nat) (o : Int), k ≤ n ∧ iv = .int .i64 k ∧ ov = .int .i64 o ∧ 0 ≤ o ∧ o ≤ wd) (fun _ iv => n - (intOf iv).toNat)
  case atStart => exact ⟨0, 0, Nat.zero_le _, rfl, rfl, by omega, h0⟩
  case round =>
    obtain ⟨k, o, hk, rfl, rfl, ho0, ho1⟩ := hrel
    by_cases hlt : k < n
    · obtain ⟨b1, o1, rfl, hx⟩ := hrr.out.at HN.out (Below.refl _ _) hlt
      obtain ⟨x, HX⟩ : ∃ x, Hid (nth es k = x) := ⟨_, Lib.hid rfl⟩
      have hxs := HS.out k (by rw [← HN.out]; exact hlt)
      rw [HX.out] at hx hxs
      go_wp2_with fail
      go_round
      case rel => exact ⟨k + 1, max o (x.size : Int), by omega, by go_num, by first | rfl | go_num, by omega, by omega⟩
      case measure => simp [intOf]; omega
    · obtain rfl : k = n := by omega
      go_wp2_with fail
      go_ret
      exact ⟨⟨o, rfl, ho1⟩, rfl⟩
end Go.Proofs.Ytfajllfedhifkaa
