/- Contracts: the exact laws' helpers on slices of slices of strings that came in: szStringSS, toStringSS. -/
import Derived.Test.YtgfpbnafehpopaaMarkP
import Derived.Test.YtgfpbnafehpopaaArgs
namespace Go.Proofs.Ytgfpbnafehpopaa
open Go.RowKit
set_option maxRecDepth 100000

/-- a slice of slices of strings that came in -/
def IsParts (w : World) (a : Option Addr) (len cap : Nat) : Prop :=
  (a = none ∧ len = 0 ∧ cap = 0) ∨
  ∃ x, a = some x ∧ len ≤ cap ∧ cap ≤ maxLen ∧ ∀ r, r < len → ∃ A L C Z, w.cell? (x.add r) = some (.slice A L C) ∧ IsStrs w A L C Z

structure Big (ps : pl.Gs) : Prop where
  len : ps.length ≤ maxLen
  rows : ∀ k, k < ps.length → (pl.nthP ps k).length ≤ maxLen
  size : ∀ k, k < ps.length → ∀ i, i < (pl.nthP ps k).length → (nth (pl.nthP ps k) i).size ≤ maxLen

theorem IsStrs.lreads {w : World} {a : Option Addr} {len cap : Nat} {ss : List ByteArray} (h : IsStrs w a len cap ss) : LStrs w (.slice a len cap) (ss.take len) := by
  have hle : len ≤ cap := by
    rcases h with ⟨_, rfl, rfl, _⟩ | ⟨_, _, hl, _⟩
    · exact Nat.le_refl _
    · exact hl
  obtain ⟨h1, h2, _⟩ := h.reads
  exact ⟨h1, a, cap, by rw [h2], by rw [h2]; exact hle⟩

theorem IsParts.reads {w : World} {a : Option Addr} {len cap : Nat} (h : IsParts w a len cap) : ∃ ps, RPs w (.slice a len cap) ps ∧ Big ps := by
  rcases h with ⟨rfl, rfl, rfl⟩ | ⟨x, rfl, hl, hm, hc⟩
  · exact ⟨[], .inl ⟨rfl, _, _, rfl⟩, ⟨by simp, fun k h => by simp at h, fun k h => by simp at h⟩⟩
  · by_cases h0 : len = 0
    · subst h0
      exact ⟨[], .inl ⟨rfl, _, _, rfl⟩, ⟨by simp, fun k h => by simp at h, fun k h => by simp at h⟩⟩
    have H : ∀ r, r < len → ∃ l : List ByteArray, ∃ u, w.cell? (x.add r) = some u ∧ LStrs w u l ∧ l.length ≤ maxLen ∧ ∀ i, i < l.length → (nth l i).size ≤ maxLen := by
      intro r hr
      obtain ⟨A, L, C, Z, h1, h2⟩ := hc r hr
      obtain ⟨_, e2, e3, e4⟩ := h2.reads
      exact ⟨_, _, h1, h2.lreads, by rw [e2]; exact e3, by rw [e2]; exact e4⟩
    obtain ⟨f, hf⟩ : ∃ f : Nat → List ByteArray, ∀ r, r < len → ∃ u, w.cell? (x.add r) = some u ∧ LStrs w u (f r) ∧ (f r).length ≤ maxLen ∧ ∀ i, i < (f r).length → (nth (f r) i).size ≤ maxLen :=
      ⟨fun r => if h : r < len then Classical.choose (H r h) else [], fun r hr => by
        simp only [hr, dite_true]
        exact Classical.choose_spec (H r hr)⟩
    have hln : ((List.range len).map f).length = len := by simp
    have hnth : ∀ r, r < len → pl.nthP ((List.range len).map f) r = f r := by
      intro r hr
      rw [pl.nthP_eq (by rw [hln]; exact hr)]; simp
    obtain ⟨b, off, spot⟩ := x
    obtain ⟨u0, hu0, _⟩ := hf 0 (by omega)
    have hspot : spot = none := by simpa [Addr.add] using World.cell?_spot hu0
    subst hspot
    have hadd : ∀ i, (⟨b, off, none⟩ : Addr).add i = ⟨b, off + i, none⟩ := fun i => by unfold Addr.add; split <;> simp_all
    refine ⟨(List.range len).map f, .inr ⟨by rw [hln]; omega, b, off, cap, by rw [hln], ?_, fun i hi => ?_⟩, ⟨by rw [hln]; omega, fun k hk => ?_, fun k hk => ?_⟩⟩
    · have := World.block_lt_of_cell? w _ hu0
      rw [hadd] at this; exact this
    · rw [hln] at hi
      obtain ⟨u, h1, h2, _⟩ := hf i hi
      exact ⟨u, by rw [← hadd]; exact h1, by rw [hnth i hi]; exact h2⟩
    · rw [hln] at hk
      obtain ⟨u, _, _, h3, _⟩ := hf k hk
      rw [hnth k hk]; exact h3
    · rw [hln] at hk
      obtain ⟨u, _, _, _, h4⟩ := hf k hk
      rw [hnth k hk]; exact h4

set_option maxHeartbeats 1000000 in
theorem szStringQ_any (l : List ByteArray) (v : Value) (Q : Nat) (w : World) (hr : RStrs w v l) (hQ : Q ≤ 1048576) (hlen : l.length ≤ maxLen) (hsz : ∀ i, i < l.length → (nth l i).size ≤ maxLen) :
    Calls Try.prog 42 #[v, .int .i64 Q] w fun e w' => (∃ r : Int, e = .returned (.int .i64 r) ∧ (r < 0 ∨ (0 ≤ r ∧ r + l.length ≤ Q ∧ small l))) ∧ w = w' := by
  have hlen' := hlen
  unfold maxLen at hlen'
  obtain ⟨n, hn⟩ : ∃ n, n = l.length := ⟨_, rfl⟩
  have HN := Lib.hid hn
  have HSZ := Lib.hid hsz
  have HR := Lib.hid hr
  obtain ⟨a0, cap0, rfl⟩ := hr.slice
  rw [← hn] at hlen' HR ⊢
  clear hsz hlen hn hr
  by_cases hbig : Q < n
  · go_enter Try.func42, Try.ntmps42
    go_wp2_with fail
    go_ret
    exact ⟨⟨-1, rfl, .inl (by omega)⟩, rfl⟩
  · go_enter Try.func42, Try.ntmps42
    go_wp2_with fail
    go_loop [1, 5] (fun lv iv => ∃ (k q : Nat), k ≤ n ∧ q + n ≤ Q ∧ lv = .int .i64 q ∧ iv = .int .i64 k ∧ Hid (∀ i, i < k → (nth l i).size ≤ 1048576)) (fun _ iv => n - (intOf iv).toNat)
    case atStart => exact ⟨0, Q - n, Nat.zero_le _, by omega, by go_num, rfl, Lib.hid (fun i h => by omega)⟩
    case round =>
      obtain ⟨k, q, hk, hq, rfl, rfl, hs⟩ := hrel
      by_cases hlt : k < n
      · obtain ⟨b1, o1, rfl, hx⟩ := HR.out.at HN.out (Below.refl _ _) hlt
        have hxm := HSZ.out k (by rw [← HN.out]; exact hlt)
        unfold maxLen at hxm
        obtain ⟨x, HX⟩ : ∃ x, Hid (nth l k = x) := ⟨_, Lib.hid rfl⟩
        rw [HX.out] at hx hxm
        by_cases hb : q < x.size
        · go_wp2_with fail
          go_ret
          exact ⟨⟨-1, rfl, .inl (by omega)⟩, rfl⟩
        · have hn2 : Hid (∀ i, i < k + 1 → (nth l i).size ≤ 1048576) := Lib.hid (fun i hi => by
            by_cases e : i = k
            · subst e; rw [HX.out]; omega
            · exact hs.out i (by omega))
          go_wp2_with fail
          go_round
          case rel => exact ⟨k + 1, q - x.size, by omega, by omega, by go_num, by go_num, hn2⟩
          case measure => simp [intOf]; omega
      · obtain rfl : k = n := by omega
        have hs2 : Hid (small l) := Lib.hid ⟨by rw [← HN.out]; omega, by rw [← HN.out]; exact hs.out⟩
        go_wp2_with fail
        go_ret
        exact ⟨⟨_, rfl, .inr ⟨by omega, by omega, hs2.out⟩⟩, rfl⟩

set_option maxHeartbeats 1000000 in
theorem szSS_any (ps : pl.Gs) (v : Value) (w : World) (hr : RPs w v ps) (hb : Big ps) :
    Calls Try.prog 35 #[v, .int .i64 1048576] w fun e w' => (∃ r : Int, e = .returned (.int .i64 r) ∧ (r < 0 ∨ (0 ≤ r ∧ Small ps ∧ pl.totTo ps ps.length ≤ 1048576 ∧ r ≤ 1048576))) ∧ w = w' := by
  have hlen' := hb.len
  unfold maxLen at hlen'
  obtain ⟨n, hn⟩ : ∃ n, n = ps.length := ⟨_, rfl⟩
  have HN := Lib.hid hn
  have HB := Lib.hid hb
  have HR := Lib.hid hr
  obtain ⟨a0, cap0, rfl⟩ := hr.slice
  rw [← hn] at hlen' HR ⊢
  clear hn hr hb
  by_cases hbig : 1048576 < n
  · go_enter Try.func35, Try.ntmps35
    go_wp2_with fail
    go_ret
    exact ⟨⟨-1, rfl, .inl (by omega)⟩, rfl⟩
  · go_enter Try.func35, Try.ntmps35
    go_wp2_with fail
    go_loop [1, 5] (fun lv iv => ∃ (k q : Nat), k ≤ n ∧ q + n + pl.totTo ps k ≤ 1048576 ∧ lv = .int .i64 q ∧ iv = .int .i64 k ∧ Hid (∀ i, i < k → small (pl.nthP ps i))) (fun _ iv => n - (intOf iv).toNat)
    case atStart => exact ⟨0, 1048576 - n, Nat.zero_le _, by simp only [pl.totTo]; omega, by go_num, rfl, Lib.hid (fun i h => by omega)⟩
    case round =>
      obtain ⟨k, q, hk, hq, rfl, rfl, hs⟩ := hrel
      by_cases hlt : k < n
      · have hkl : Hid (k < ps.length) := Lib.hid (by rw [← HN.out]; exact hlt)
        obtain ⟨b1, o1, u, rfl, _, hc, hu⟩ := HR.out.at HN.out (Below.refl _ _) hlt
        have HU := Lib.hid hu.1
        clear hu
        go_wp2_with fail
        refine (szStringQ_any (pl.nthP ps k) u q _ HU.out (by omega) (HB.out.rows k hkl.out) (HB.out.size k hkl.out)).mono ?_
        rintro e w' ⟨⟨r, rfl, hres⟩, rfl⟩
        rcases hres with hneg | ⟨hpos, hle, hsm⟩
        · go_wp2_with fail
          go_ret
          exact ⟨⟨-1, rfl, .inl (by omega)⟩, rfl⟩
        · obtain ⟨r, rfl⟩ := Int.eq_ofNat_of_zero_le hpos
          have hneg : ¬ (r : Int) < 0 := by omega
          have hts := pl.totTo_succ ps k
          have hn2 : Hid (∀ i, i < k + 1 → small (pl.nthP ps i)) := Lib.hid (fun i hi => by
            by_cases e : i = k
            · subst e; exact hsm
            · exact hs.out i (by omega))
          clear hsm
          go_wp2_with fail
          go_round
          case rel => exact ⟨k + 1, r, by omega, by omega, by first | rfl | go_num, by go_num, hn2⟩
          case measure => simp [intOf]; omega
      · obtain rfl : k = n := by omega
        have hs2 : Hid (Small ps) := Lib.hid ⟨by rw [← HN.out]; omega, fun i hi => (hs.out i (by rw [HN.out]; exact hi)).1, fun i hi => (hs.out i (by rw [HN.out]; exact hi)).2⟩
        go_wp2_with fail
        go_ret
        exact ⟨⟨_, rfl, .inr ⟨by omega, hs2.out, by omega, by omega⟩⟩, rfl⟩

/-- the first k rows, the others empty -/
def firstP (k : Nat) (ps : pl.Gs) : pl.Gs := (List.range ps.length).map fun i => if i < k then pl.nthP ps i else []
theorem firstP_len (k : Nat) (ps : pl.Gs) : (firstP k ps).length = ps.length := by simp [firstP]
theorem firstP_nth {k : Nat} {ps : pl.Gs} {i : Nat} (h : i < ps.length) : pl.nthP (firstP k ps) i = if i < k then pl.nthP ps i else [] := by
  rw [pl.nthP_eq (by rw [firstP_len]; exact h)]; simp [firstP]
theorem firstP_all (ps : pl.Gs) : firstP ps.length ps = ps := by
  apply List.ext_getElem (firstP_len _ ps)
  intro i h1 h2
  rw [← pl.nthP_eq h1, ← pl.nthP_eq h2, firstP_nth h2, if_pos h2]
theorem nthV_set_same {us : List Value} {i : Nat} {q : Value} (h : i < us.length) : nthV (us.set i q) i = q := by
  rw [nthV_eq (by simpa using h)]; simp
theorem nthV_set_other {us : List Value} {i j : Nat} {q : Value} (hj : j < us.length) (h : j ≠ i) : nthV (us.set i q) j = nthV us j := by
  rw [nthV_eq (by simpa using hj), nthV_eq hj, List.getElem_set_ne (fun e => h e.symm)]
theorem Inn.start {B n : Nat} {w : World} {ps : pl.Gs} (hn : n = ps.length) : Inn B w (List.replicate n (.slice none 0 0)) (firstP 0 ps) := by
  have hv : ∀ i, i < n → nthV (List.replicate n (.slice none 0 0)) i = .slice none 0 0 := fun i hi => by rw [nthV_eq (by simpa using hi)]; simp
  refine ⟨by rw [firstP_len]; simp [hn], fun i hi => ?_, fun i j hij hj k hk => ?_⟩
  · rw [firstP_len] at hi
    rw [hv i (by omega), firstP_nth hi, if_neg (by omega)]; exact OStrs.nil _ _
  · simp at hj
    rw [hv i (by omega)] at hk; simp [Value.ownBlock] at hk
theorem Inn.fill {B C k : Nat} {w w' : World} {us : List Value} {ps : pl.Gs} {q : Value} (h : Inn B w us (firstP k ps)) (hk : k < ps.length) (hC : w.heap.size ≤ C) (hb : ∀ i, i < w.heap.size → (∀ j b, j < us.length → (nthV us j).ownBlock = some b → b = i → w'.heap[i]? = w.heap[i]?)) (hq : OStrs C w' q (pl.nthP ps k)) (hBC : B ≤ C) :
    Inn B w' (us.set k q) (firstP (k + 1) ps) := by
  have hul := h.len
  rw [firstP_len] at hul
  have hlt := h.lt
  refine ⟨by rw [firstP_len]; simp [hul], fun i hi => ?_, fun i j hij hj b hb1 hb2 => ?_⟩
  · rw [firstP_len] at hi
    rw [firstP_nth hi]
    by_cases e : i = k
    · subst e
      rw [nthV_set_same (by omega), if_pos (by omega)]
      exact hq.mono hBC
    · rw [nthV_set_other (by omega) e]
      have h1 := h.each i (by rw [firstP_len]; exact hi)
      rw [firstP_nth hi] at h1
      have h2 : (if i < k + 1 then pl.nthP ps i else []) = (if i < k then pl.nthP ps i else []) := by
        by_cases e2 : i < k
        · rw [if_pos e2, if_pos (by omega)]
        · rw [if_neg e2, if_neg (by omega)]
      rw [h2]
      exact own_keep h1 (fun b hb3 => hb b (World.ownsRow.lt h1 b hb3).2 i b (by omega) hb3 rfl)
  · rw [List.length_set] at hj
    by_cases e : i = k
    · subst e
      rw [nthV_set_same (by omega)] at hb1
      rw [nthV_set_other hj (by omega)] at hb2
      have := (World.ownsRow.lt hq b hb1).1
      have := (hlt j b hj hb2).2
      omega
    · rw [nthV_set_other (by omega) e] at hb1
      by_cases e2 : j = k
      · subst e2
        rw [nthV_set_same (by omega)] at hb2
        have := (World.ownsRow.lt hq b hb2).1
        have := (hlt i b (by omega) hb1).2
        omega
      · rw [nthV_set_other hj e2] at hb2
        exact h.apart i j hij hj b hb1 hb2
theorem HPs.none (B : Nat) (w : World) {ps : pl.Gs} (h : ps.length = 0) : HPs B w (.slice none 0 0) ps := by
  rw [List.length_eq_zero_iff.1 h]; exact HPs.nil B w

set_option maxHeartbeats 2000000 in
theorem toSS_any (ps : pl.Gs) (v : Value) (w : World) (hr : RPs w v ps) (hs : Small ps) :
    Calls Try.prog 36 #[v] w fun e w' => ∃ v', e = .returned v' ∧ HPs w.heap.size w' v' ps ∧ Below w.heap.size w w' := by
  obtain ⟨j0, hj, hy0, hy1, hy2⟩ := info_parts infoSS
  obtain ⟨n, hn⟩ : ∃ n, n = ps.length := ⟨_, rfl⟩
  have HN := Lib.hid hn
  have HR := Lib.hid hr
  have HS := Lib.hid hs
  obtain ⟨a0, cap0, rfl⟩ := hr.slice
  have hlen := hs.len
  rw [← hn] at hlen HR ⊢
  clear hn hr hs
  go_enter Try.func36, Try.ntmps36
  go_wp2_with (at_make; refine wpList_make_full _ rfl _ _ 30 rfl w.heap.size 27 j0 (.slice none 0 0) 1 Try.underlying30 hj hy0 hy1 _ _ _ _ n rfl rfl rfl rfl ?b1 ?b2 ?b3 ?_)
  case b1 => rw [hy2]; omega
  case b2 => unfold maxLen; omega
  case b3 => exact Nat.le_refl _
  intro w1 hown hgrow
  have hb0 : Below w.heap.size w w1 := (Below.refl _ _).grown hgrow (Nat.le_refl _) (fun g hg => by cases hg)
  have hown1 : w1.ownsRow w.heap.size 27 1 (.slice (some ⟨w.heap.size, 0, none⟩) n n) n (List.replicate n (.slice none 0 0)) := by
    rw [toList_madeCells_one] at hown; exact hown
  clear hown hgrow
  go_wp2_with fail
  go_loopw [4] (fun iv wr => ∃ (k : Nat) (us : List Value), k ≤ n ∧ iv = .int .i64 k ∧ Hid (us.length = n) ∧ wr.ownsRow w.heap.size 27 1 (.slice (some ⟨w.heap.size, 0, none⟩) n n) n us ∧ Hid (Inn w.heap.size wr us (firstP k ps)) ∧ Below w.heap.size w wr) (fun iv _ => n - (intOf iv).toNat)
  case atStart => exact ⟨0, _, Nat.zero_le _, rfl, Lib.hid List.length_replicate, hown1, Lib.hid (Inn.start HN.out), hb0⟩
  case round =>
    obtain ⟨k, us, hk, rfl, hul, hown, hinn, hbel⟩ := hrel
    by_cases hlt : k < n
    · have hkl : Hid (k < ps.length) := Lib.hid (by rw [← HN.out]; exact hlt)
      obtain ⟨b1, o1, u, rfl, _, hc, hu⟩ := HR.out.at HN.out hbel hlt
      have HU := Lib.hid hu.1
      have hrw := HS.out.rows k hkl.out
      have HOWN := Lib.hid hown
      have HBEL := Lib.hid hbel
      clear hu hown hbel
      go_wp2_with fail
      refine (toStringS_any (pl.nthP ps k) u _ HU.out hrw).mono ?_
      rintro e w2 ⟨q, rfl, hoq, hbq⟩
      have HOWN2 := Lib.hid (own_keep HOWN.out (fun b hb => hbq.block b (World.ownsRow.lt HOWN.out b hb).2))
      have hB2 := Lib.hid (HBEL.out.trans (hbq.mono HBEL.out.size))
      obtain ⟨aq, cq, hq⟩ := hoq.reads.slice
      obtain ⟨M, HM⟩ : ∃ M, Hid ((pl.nthP ps k).length = M) := ⟨_, Lib.hid rfl⟩
      rw [HM.out] at hq
      have HQ := Lib.hid hoq
      have HBQ := Lib.hid hbq
      have hx : w2.cell? ⟨w.heap.size, k, none⟩ = some (nthV us k) := by
        rw [World.ownsRow.cellAt HOWN2.out k (by omega), nthV_eq (by rw [hul.out]; exact hlt), List.getElem?_eq_getElem (by rw [hul.out]; exact hlt)]
      have hf2 := World.ownsRow.frozenAt HOWN2.out k
      clear hoq hbq
      subst hq
      have hst := World.ownsRow.stored HOWN2.out k (.slice aq M cq)
      have HO3 := Lib.hid hst.1
      have HG3 := Lib.hid hst.2
      have HB3 := Lib.hid (hB2.out.setCell (p := ⟨w.heap.size, k, none⟩) (Nat.le_refl _) (.slice aq M cq))
      have HI3 : Hid (Inn w.heap.size (w2.setCell ⟨w.heap.size, k, none⟩ (.slice aq M cq)) (us.set k (.slice aq M cq)) (firstP (k + 1) ps)) := Lib.hid (Inn.fill hinn.out hkl.out (Nat.le_refl _) (fun i hi j b hj hb e => by
        subst e
        rw [HG3.out.block b (Nat.lt_of_lt_of_le hi HBQ.out.size) (fun e2 => types_apart HOWN.out (hinn.out.each j (by rw [← hinn.out.len]; exact hj)) (by decide) b e2.symm hb)]
        exact HBQ.out.block b hi)
        (own_keep HQ.out (fun b hb => HG3.out.block b (World.ownsRow.lt HQ.out b hb).2 (fun e2 => types_apart HOWN2.out HQ.out (by decide) b e2.symm hb))) HBEL.out.size)
      have hul2 : Hid ((us.set k (.slice aq M cq)).length = n) := Lib.hid (by rw [List.length_set]; exact hul.out)
      clear hst hc
      go_wp2_with fail
      go_roundw
      case rel => exact ⟨k + 1, _, by omega, by go_num, hul2, HO3.out, HI3, HB3.out⟩
      case measure => simp [intOf]; omega
    · obtain rfl : k = n := by omega
      have hall : Hid (firstP k ps = ps) := Lib.hid (by rw [HN.out]; exact firstP_all ps)
      go_wp2_with fail
      go_ret
      exact ⟨_, rfl, ⟨us, by rw [hul.out]; exact hown, by rw [← hall.out]; exact hinn.out⟩, hbel⟩
end Go.Proofs.Ytgfpbnafehpopaa
