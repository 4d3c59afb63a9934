/- Contracts: isWidth; the texts of rows of words (textsOf). -/
import Derived.Test.YtgfpbnafehpopaaWay
import Derived.Test.YtgfpbnafehpopaaArgs
import Derived.Test.YtgfpbnafehpopaaLinesV
import Derived.Test.YtgfpbnafehpopaaShelf
namespace Go.Proofs.Ytgfpbnafehpopaa
open Go.RowKit
set_option maxRecDepth 100000

set_option maxHeartbeats 400000 in
theorem isWidth_any (n : Int) (w : World) :
    Calls Try.prog 102 #[.int .i64 n] w fun e w' => e = .returned (.bool (pl.inR n 1 120)) ∧ w = w' := by
  by_cases h1 : 1 ≤ n
  · go_enter Try.func102, Try.ntmps102
    go_wp2
    go_ret
    exact ⟨by simp [pl.inR, h1], rfl⟩
  · have h1' : n < 1 := by omega
    go_enter Try.func102, Try.ntmps102
    go_wp2
    go_ret
    exact ⟨ret_b (pl.inR_false (.inl h1')).symm, rfl⟩

/-- a slice of strings that can be read, and its room -/
def LStrs (w : World) (v : Value) (l : List ByteArray) : Prop := RStrs w v l ∧ ∃ a cap, v = .slice a l.length cap ∧ l.length ≤ cap
theorem OStrs.lreads {B : Nat} {w : World} {v : Value} {l : List ByteArray} (h : OStrs B w v l) : LStrs w v l := by
  refine ⟨h.reads, ?_⟩
  rcases h.2 with ⟨hv, hn⟩ | ⟨g, cap, cur, hv, hB, hg, hle, _⟩
  · exact ⟨none, 0, by rw [hv, hn], by omega⟩
  · exact ⟨_, cap, hv, hle⟩
theorem LStrs.below {C : Nat} {w w' : World} {v : Value} {l : List ByteArray} (h : LStrs w v l) (hC : w.heap.size ≤ C) (hb : Below C w w') : LStrs w' v l := ⟨h.1.below hC hb, h.2⟩

/-- strings.Join of a piece of a slice -/
theorem joinAt (b o cap n f k : Nat) (l : List ByteArray) (sep : ByteArray) (w : World) (h : RStrs w (.slice (some ⟨b, o, none⟩) n cap) l) (hn : n = l.length) (hcap : n ≤ cap) (hk : 0 < k) (hfk : f + k ≤ n) (hl : l.length ≤ 2000000)
    (hsz : (pl.joinB ((l.drop f).take k) sep).size ≤ 1000000000000) :
    Calls Try.prog 82 #[.slice (some ⟨b, o + f, none⟩) k (cap - f), .string sep] w fun e w' => e = .returned (.string (pl.joinB ((l.drop f).take k) sep)) ∧ Below w.heap.size w w' := by
  rcases h with ⟨hz, _⟩ | ⟨hpos, b1, o1, c1, hvv, hb1, hc1⟩
  · rw [hz] at hn; simp at hn; omega
  · simp only [Value.slice.injEq] at hvv
    obtain ⟨hbo, _, _⟩ := hvv
    simp only [Option.some.injEq, Addr.mk.injEq, and_true] at hbo
    obtain ⟨rfl, rfl⟩ := hbo
    have hkl : ((l.drop f).take k).length = k := by rw [List.length_take, List.length_drop]; omega
    have hj := Try.strings_Join b (o + f) (cap - f) ((l.drop f).take k) sep w (fun j x hx => ?_) hb1 (by omega) (by omega) (Nat.le_trans (show _ ≤ 1000000000000 from hsz) (by omega))
    · rw [hkl] at hj
      refine hj.mono ?_
      rintro e w' ⟨rfl, hb⟩
      exact ⟨rfl, hb⟩
    · have hjl : j < k := by
        rcases Nat.lt_or_ge j k with h1 | h1
        · exact h1
        · rw [List.getElem?_eq_none (by omega)] at hx; cases hx
      have e : x = nth l (f + j) := by
        rw [List.getElem?_take_of_lt hjl, List.getElem?_drop, List.getElem?_eq_getElem (by omega)] at hx
        rw [nth_eq (by omega)]
        exact (Option.some.inj hx).symm
      rw [Nat.add_assoc, hc1 (f + j) (by omega), e]

namespace pl
theorem piece_G (gs : Gs) (i : Nat) (g : List ByteArray) (h : gs[i]? = some g) : (gs.flatten.drop (gs.take i).flatten.length).take g.length = g ∧ (gs.take i).flatten.length + g.length ≤ gs.flatten.length := by
  obtain ⟨hi, e⟩ := List.getElem?_eq_some_iff.1 h
  have e2 : gs = gs.take i ++ g :: gs.drop (i + 1) := by
    conv => lhs; rw [← List.take_append_drop i gs]
    rw [List.drop_eq_getElem_cons hi, e]
  have e3 : gs.flatten = (gs.take i).flatten ++ (g ++ (gs.drop (i + 1)).flatten) := by
    conv => lhs; rw [e2]
    rw [List.flatten_append, List.flatten_cons]
  constructor
  · rw [e3, List.drop_left, List.take_left]
  · rw [e3]; simp only [List.length_append]; omega
def TInv (gs : Gs) (l' : List ByteArray) (k : Nat) : Prop := l'.length = gs.length ∧ ∀ i g, i < k → gs[i]? = some g → nth l' i = jline g
end pl

set_option maxHeartbeats 1000000 in
theorem textsOf_any (B : Nat) (v u : Value) (l : List ByteArray) (gs : pl.Gs) (w : World) (hl : LStrs w v l) (hg : RRows w u (rowsG 0 gs)) (he : gs.flatten = l) (hful : ∀ g ∈ gs, g ≠ []) (hn : l.length ≤ 1000) (hsz : ∀ x ∈ l, x.size ≤ 12) (hB : B = w.heap.size) :
    Calls Try.prog 105 #[v, u] w fun e w' => ∃ v', e = .returned v' ∧ OStrs B w' v' (gs.map pl.jline) ∧ Below B w w' := by
  obtain ⟨i0, hi, hz0, hz1, hz2⟩ := info_parts infoS
  subst hB
  have hglen : gs.length ≤ 1000 := by
    have : gs.length ≤ gs.flatten.length := by
      clear hg he
      induction gs with
      | nil => simp
      | cons a r ih =>
        have h1 := ih (fun g hg => hful g (by simp [hg]))
        have h2 : 0 < a.length := List.length_pos_iff.2 (hful a (by simp))
        rw [List.flatten_cons, List.length_append, List.length_cons]; omega
    rw [he] at this; omega
  obtain ⟨hr, a0, cap0, rfl, hcap⟩ := hl
  obtain ⟨n, hne⟩ : ∃ n, n = l.length := ⟨_, rfl⟩
  rw [← hne] at hr hcap hn ⊢
  have HN := Lib.hid hne
  have HR := Lib.hid hr
  obtain ⟨m, hme⟩ : ∃ m, m = gs.length := ⟨_, rfl⟩
  have HM := Lib.hid hme
  rw [← hme] at hglen
  have HG := Lib.hid hg
  have HE := Lib.hid he
  have HF := Lib.hid hful
  have HZ := Lib.hid hsz
  obtain ⟨a1, cap1, hu, hcap1⟩ : ∃ a1 cap1, u = .slice a1 m cap1 ∧ (m = 0 ∨ ∃ b, a1 = some ⟨b, 0, none⟩) := by
    rcases hg with ⟨h1, c, h2⟩ | ⟨b, c, h2, _⟩
    · have := congrArg List.length h1; rw [rowsG_len] at this
      exact ⟨none, c, by rw [h2, hme, this]; rfl, .inl (by rw [hme, this]; rfl)⟩
    · exact ⟨_, c, by rw [h2, rowsG_len, hme], .inr ⟨b, rfl⟩⟩
  subst hu
  clear hne hr hme hg he hful hsz
  go_enter Try.func105, Try.ntmps105
  go_wp2_with (at_make; refine wpList_make_full _ rfl _ _ 27 rfl w.heap.size 9 i0 (.string ByteArray.empty) 1 Try.underlying27 hi hz0 hz1 _ _ _ _ m rfl rfl rfl rfl ?b1 ?b2 ?b3 ?_)
  case b1 => rw [hz2]; omega
  case b2 => unfold maxLen; omega
  case b3 => exact Nat.le_refl _
  intro w1 hown hgrow
  have hb0 : Below w.heap.size w w1 := (Below.refl _ _).grown hgrow (Nat.le_refl _) (fun g hg => by cases hg)
  have hown1 : w1.ownsRow w.heap.size 9 1 (.slice (some ⟨w.heap.size, 0, none⟩) m m) m ((List.replicate m ByteArray.empty).map Value.string) := by
    rw [toList_madeCells_one, ← List.map_replicate] at hown; exact hown
  clear hown hgrow
  go_wp2_with fail
  go_loopw [13] (fun iv wr => ∃ (k : Nat) (l' : List ByteArray), k ≤ m ∧ iv = .int .i64 k ∧ Hid (pl.TInv gs l' k) ∧ wr.ownsRow w.heap.size 9 1 (.slice (some ⟨w.heap.size, 0, none⟩) m m) m (l'.map Value.string) ∧ Below w.heap.size w wr) (fun iv _ => m - (intOf iv).toNat)
  case atStart => exact ⟨0, _, Nat.zero_le _, rfl, Lib.hid ⟨by rw [List.length_replicate]; exact HM.out, fun i g h => absurd h (by omega)⟩, hown1, hb0⟩
  case round =>
    obtain ⟨k, l', hk, rfl, hinv, hown, hbel⟩ := hrel
    by_cases hlt : k < m
    · obtain ⟨b1, hb1⟩ : ∃ b, a1 = some ⟨b, 0, none⟩ := by
        rcases hcap1 with h | h
        · omega
        · exact h
      subst hb1
      obtain ⟨g, hgk⟩ : ∃ g, Hid (gs[k]? = some g) := ⟨gs[k]'(by rw [← HM.out]; exact hlt), Lib.hid (List.getElem?_eq_getElem _)⟩
      obtain ⟨F, hF⟩ : ∃ F, Hid ((gs.take k).flatten.length = F) := ⟨_, Lib.hid rfl⟩
      obtain ⟨K, hK⟩ : ∃ K, Hid (g.length = K) := ⟨_, Lib.hid rfl⟩
      obtain ⟨Z, hZ⟩ : ∃ Z, Hid (pl.szJ g = Z) := ⟨_, Lib.hid rfl⟩
      have hpc := Lib.hid (pl.piece_G gs k g hgk.out)
      have hFK : F + K ≤ n := by have := hpc.out.2; rw [hF.out, hK.out, HE.out, ← HN.out] at this; exact this
      have hgm : Hid (g ∈ gs) := Lib.hid (List.mem_of_getElem? hgk.out)
      have hK0 : 0 < K := by rw [← hK.out]; exact List.length_pos_iff.2 (HF.out g hgm.out)
      obtain ⟨c1, c2, c3⟩ : wr.cell? ⟨b1, k * 3, none⟩ = some (.int .i64 F) ∧ wr.cell? ⟨b1, k * 3 + 1, none⟩ = some (.int .i64 K) ∧ wr.cell? ⟨b1, k * 3 + 2, none⟩ = some (.int .i64 Z) := by
        rcases HG.out.below (Nat.le_refl _) hbel with ⟨h1, _⟩ | ⟨b, c, h2, _, _, hc⟩
        · exfalso
          have := congrArg List.length h1; rw [rowsG_len, ← HM.out] at this; simp at this; omega
        · simp only [Value.slice.injEq, Option.some.injEq, Addr.mk.injEq, and_true] at h2
          obtain ⟨rfl, _, _⟩ := h2
          have := hc k _ (rowsG_get gs k g hgk.out)
          rw [hF.out, hK.out, hZ.out] at this
          exact this
      obtain ⟨bl, ol, rfl, _⟩ := HR.out.at HN.out hbel (k := F) (by omega)
      have hjs : Hid ((pl.joinB ((l.drop F).take K) ⟨#[32]⟩).size ≤ 1000000000000) := Lib.hid (by
        have e := hpc.out.1
        rw [HE.out, hF.out, hK.out] at e
        rw [e]
        have h1 := pl.szJ_bound g (fun x hx => HZ.out x (by rw [← HE.out]; exact List.mem_flatten.2 ⟨g, hgm.out, hx⟩))
        have h2 : (pl.joinB g ⟨#[32]⟩).size = pl.szJ g := rfl
        have h3 := hK.out
        rw [h2]; omega)
      go_wp2_with fail
      have hb2 := hbel.alloc hbel.size (.cells #[.int .i64 F, .int .i64 K, .int .i64 Z] 110)
      refine (joinAt bl ol cap0 n F K l ⟨#[32]⟩ _ (HR.out.below (Nat.le_refl _) hb2) HN.out hcap hK0 hFK (by have := HN.out; omega) hjs.out).mono ?_
      rintro e w2 ⟨rfl, hb3⟩
      have hb4 := Lib.hid (hb2.trans (hb3.mono hb2.size))
      obtain ⟨x, HX⟩ : ∃ x, Hid (pl.joinB ((l.drop F).take K) ⟨#[32]⟩ = x) := ⟨_, Lib.hid rfl⟩
      rw [HX.out]
      have hx : Hid (pl.jline g = x) := Lib.hid (by
        have e := hpc.out.1
        rw [HE.out, hF.out, hK.out] at e
        rw [← HX.out, e]; rfl)
      have hown2 : w2.ownsRow w.heap.size 9 1 (.slice (some ⟨w.heap.size, 0, none⟩) m m) m (l'.map Value.string) := by
        have h : OStrs w.heap.size wr (.slice (some ⟨w.heap.size, 0, none⟩) m m) l' := by unfold OStrs; rw [hinv.out.1, ← HM.out]; exact hown
        have h2 := (h.alloc (.cells #[.int .i64 F, .int .i64 K, .int .i64 Z] 110)).below (Nat.le_refl _) hb3
        unfold OStrs at h2; rw [hinv.out.1, ← HM.out] at h2; exact h2
      have hc5 := own_cell hown2 (by rw [hinv.out.1]; exact HM.out.symm) hlt
      have hf5 := World.ownsRow.frozenAt hown2 k
      obtain ⟨ho6, _⟩ := own_store (j := k) hown2 x
      have HO6 := Lib.hid ho6
      have hb6 := Lib.hid (hb4.out.setCell (p := ⟨w.heap.size, k, none⟩) (Nat.le_refl _) (.string x))
      have hn2 : Hid (pl.TInv gs (l'.set k x) (k + 1)) := Lib.hid ⟨by rw [List.length_set]; exact hinv.out.1, fun i g' hi2 hg' => by
        by_cases e : i = k
        · subst e
          rw [nth_set_same (by rw [hinv.out.1, ← HM.out]; exact hlt)]
          have : g = g' := Option.some.inj (hgk.out.symm.trans hg')
          rw [← this, hx.out]
        · rw [nth_set_other (by rw [hinv.out.1, ← HM.out]; omega) e]; exact hinv.out.2 i g' (by omega) hg'⟩
      clear hown hown2 ho6 hb2 hb3 hinv c1 c2 c3
      go_wp2_with fail
      go_roundw
      case rel => exact ⟨k + 1, _, by omega, by go_num, hn2, HO6.out, hb6.out⟩
      case measure => simp [intOf]; omega
    · obtain rfl : k = m := by omega
      have he : Hid (l' = gs.map pl.jline) := Lib.hid (nth_ext (by rw [hinv.out.1, List.length_map]) (fun i hi => by
        rw [hinv.out.1] at hi
        rw [hinv.out.2 i _ (by rw [HM.out]; exact hi) (List.getElem?_eq_getElem hi), nth_eq (by rw [List.length_map]; exact hi), List.getElem_map]))
      have hm2 : Hid ((gs.map pl.jline).length = k) := Lib.hid (by rw [List.length_map]; exact HM.out.symm)
      go_wp2_with fail
      go_ret
      exact ⟨_, rfl, by unfold OStrs; rw [hm2.out, ← he.out]; exact hown, hbel⟩
end Go.Proofs.Ytgfpbnafehpopaa
