/- Contracts: the exact laws' helpers on slices of slices of strings that came in: szStringSS, toStringSS. -/
import Derived.Test.YtadlelcckalcoaaMarkP
import Derived.Test.YtadlelcckalcoaaArgs
namespace Go.Proofs.Ytadlelcckalcoaa
open Go.RowKit
set_option maxRecDepth 100000

/-- a slice of slices of strings that came in -/
def IsParts (w : World) (a : Option Addr) (len cap : Nat) : Prop :=
  (a = none ∧ len = 0 ∧ cap = 0) ∨
  ∃ x, a = some x ∧ len ≤ cap ∧ cap ≤ maxLen ∧ ∀ r, r < len → ∃ A L C Z, w.cell? (x.add r) = some (.slice A L C) ∧ IsStrs w A L C Z

structure Big (ps : pl.Gs) : Prop where
  len : ps.length ≤ maxLen
  rows : ∀ k, k < ps.length → (pl.nthP ps k).length ≤ maxLen
  size : ∀ k, k < ps.length → ∀ i, i < (pl.nthP ps k).length → (nth (pl.nthP ps k) i).size ≤ maxLen

theorem IsStrs.lreads {w : World} {a : Option Addr} {len cap : Nat} {ss : List ByteArray} (h : IsStrs w a len cap ss) : LStrs w (.slice a len cap) (ss.take len) := by
  have hle : len ≤ cap := by
    rcases h with ⟨_, rfl, rfl, _⟩ | ⟨_, _, hl, _⟩
    · exact Nat.le_refl _
    · exact hl
  obtain ⟨h1, h2, _⟩ := h.reads
  exact ⟨h1, a, cap, by rw [h2], by rw [h2]; exact hle⟩

theorem IsParts.reads {w : World} {a : Option Addr} {len cap : Nat} (h : IsParts w a len cap) : ∃ ps, RPs w (.slice a len cap) ps ∧ Big ps := by
  rcases h with ⟨rfl, rfl, rfl⟩ | ⟨x, rfl, hl, hm, hc⟩
  · exact ⟨[], .inl ⟨rfl, _, _, rfl⟩, ⟨by simp, fun k h => by simp at h, fun k h => by simp at h⟩⟩
  · by_cases h0 : len = 0
    · subst h0
      exact ⟨[], .inl ⟨rfl, _, _, rfl⟩, ⟨by simp, fun k h => by simp at h, fun k h => by simp at h⟩⟩
    have H : ∀ r, r < len → ∃ l : List ByteArray, ∃ u, w.cell? (x.add r) = some u ∧ LStrs w u l ∧ l.length ≤ maxLen ∧ ∀ i, i < l.length → (nth l i).size ≤ maxLen := by
      intro r hr
      obtain ⟨A, L, C, Z, h1, h2⟩ := hc r hr
      obtain ⟨_, e2, e3, e4⟩ := h2.reads
      exact ⟨_, _, h1, h2.lreads, by rw [e2]; exact e3, by rw [e2]; exact e4⟩
    obtain ⟨f, hf⟩ : ∃ f : Nat → List ByteArray, ∀ r, r < len → ∃ u, w.cell? (x.add r) = some u ∧ LStrs w u (f r) ∧ (f r).length ≤ maxLen ∧ ∀ i, i < (f r).length → (nth (f r) i).size ≤ maxLen :=
      ⟨fun r => if h : r < len then Classical.choose (H r h) else [], fun r hr => by
        simp only [hr, dite_true]
        exact Classical.choose_spec (H r hr)⟩
    have hln : ((List.range len).map f).length = len := by simp
    have hnth : ∀ r, r < len → pl.nthP ((List.range len).map f) r = f r := by
      intro r hr
      rw [pl.nthP_eq (by rw [hln]; exact hr)]; simp
    obtain ⟨b, off, spot⟩ := x
    obtain ⟨u0, hu0, _⟩ := hf 0 (by omega)
    have hspot : spot = none := by simpa [Addr.add] using World.cell?_spot hu0
    subst hspot
    have hadd : ∀ i, (⟨b, off, none⟩ : Addr).add i = ⟨b, off + i, none⟩ := fun i => by unfold Addr.add; split <;> simp_all
    refine ⟨(List.range len).map f, .inr ⟨by rw [hln]; omega, b, off, cap, by rw [hln], ?_, fun i hi => ?_⟩, ⟨by rw [hln]; omega, fun k hk => ?_, fun k hk => ?_⟩⟩
    · have := World.block_lt_of_cell? w _ hu0
      rw [hadd] at this; exact this
    · rw [hln] at hi
      obtain ⟨u, h1, h2, _⟩ := hf i hi
      exact ⟨u, by rw [← hadd]; exact h1, by rw [hnth i hi]; exact h2⟩
    · rw [hln] at hk
      obtain ⟨u, _, _, h3, _⟩ := hf k hk
      rw [hnth k hk]; exact h3
    · rw [hln] at hk
      obtain ⟨u, _, _, _, h4⟩ := hf k hk
      rw [hnth k hk]; exact h4

set_option maxHeartbeats 1000000 in
theorem szStringQ_any (l : List ByteArray) (v : Value) (Q : Nat) (w : World) (hr : RStrs w v l) (hQ : Q ≤ 1048576) (hlen : l.length ≤ maxLen) (hsz : ∀ i, i < l.length → (nth l i).size ≤ maxLen) :
    Calls Try.prog 23 #[v, .int .i64 Q] w fun e w' => (∃ r : Int, e = .returned (.int .i64 r) ∧ (r < 0 ∨ (0 ≤ r ∧ r + l.length ≤ Q ∧ small l))) ∧ w = w' := by
  have hlen' := hlen
  unfold maxLen at hlen'
  obtain ⟨n, hn⟩ : ∃ n, n = l.length := ⟨_, rfl⟩
  have HN := Lib.hid hn
  have HSZ := Lib.hid hsz
  have HR := Lib.hid hr
  obtain ⟨a0, cap0, rfl⟩ := hr.slice
  rw [← hn] at hlen' HR ⊢
  clear hsz hlen hn hr
  by_cases hbig : Q < n
  · go_enter Try.func23, Try.ntmps23
    go_wp2_with fail
    go_ret
    exact ⟨⟨-1, rfl, .inl (by omega)⟩, rfl⟩
  · go_enter Try.func23, Try.ntmps23
    go_wp2_with fail
    go_loop [1, 5] (fun lv iv => ∃ (k q : Nat), k ≤ n ∧ q + n ≤ Q ∧ lv = .int .i64 q ∧ iv = .int .i64 k ∧ Hid (∀ i, i < k → (nth l i).size ≤ 1048576)) (fun _ iv => n - (intOf iv).toNat)
    case atStart => exact ⟨0, Q - n, Nat.zero_le _, by omega, by go_num, rfl, Lib.hid (fun i h => by omega)⟩
    case round =>
      obtain ⟨k, q, hk, hq, rfl, rfl, hs⟩ := hrel
      by_cases hlt : k < n
      · obtain ⟨b1, o1, rfl, hx⟩ := HR.out.at HN.out (Below.refl _ _) hlt
        have hxm := HSZ.out k (by rw [← HN.out]; exact hlt)
        unfold maxLen at hxm
        obtain ⟨x, HX⟩ : ∃ x, Hid (nth l k = x) := ⟨_, Lib.hid rfl⟩
        rw [HX.out] at hx hxm
        by_cases hb : q < x.size
        · go_wp2_with fail
          go_ret
          exact ⟨⟨-1, rfl, .inl (by omega)⟩, rfl⟩
        · have hn2 : Hid (∀ i, i < k + 1 → (nth l i).size ≤ 1048576) := Lib.hid (fun i hi => by
            by_cases e : i = k
            · subst e; rw [HX.out]; omega
            · exact hs.out i (by omega))
          go_wp2_with fail
          go_round
          case rel => exact ⟨k + 1, q - x.size, by omega, by omega, by go_num, by go_num, hn2⟩
          case measure => simp [intOf]; omega
      · obtain rfl : k = n := by omega
        have hs2 : Hid (small l) := Lib.hid ⟨by rw [← HN.out]; omega, by rw [← HN.out]; exact hs.out⟩
        go_wp2_with fail
        go_ret
        exact ⟨⟨_, rfl, .inr ⟨by omega, by omega, hs2.out⟩⟩, rfl⟩

/-- the first k rows, the others empty -/
def firstP (k : Nat) (ps : pl.Gs) : pl.Gs := (List.range ps.length).map fun i => if i < k then pl.nthP ps i else []
theorem firstP_len (k : Nat) (ps : pl.Gs) : (firstP k ps).length = ps.length := by simp [firstP]
theorem firstP_nth {k : Nat} {ps : pl.Gs} {i : Nat} (h : i < ps.length) : pl.nthP (firstP k ps) i = if i < k then pl.nthP ps i else [] := by
  rw [pl.nthP_eq (by rw [firstP_len]; exact h)]; simp [firstP]
theorem firstP_all (ps : pl.Gs) : firstP ps.length ps = ps := by
  apply List.ext_getElem (firstP_len _ ps)
  intro i h1 h2
  rw [← pl.nthP_eq h1, ← pl.nthP_eq h2, firstP_nth h2, if_pos h2]
theorem nthV_set_same {us : List Value} {i : Nat} {q : Value} (h : i < us.length) : nthV (us.set i q) i = q := by
  rw [nthV_eq (by simpa using h)]; simp
theorem nthV_set_other {us : List Value} {i j : Nat} {q : Value} (hj : j < us.length) (h : j ≠ i) : nthV (us.set i q) j = nthV us j := by
  rw [nthV_eq (by simpa using hj), nthV_eq hj, List.getElem_set_ne (fun e => h e.symm)]
theorem Inn.start {B n : Nat} {w : World} {ps : pl.Gs} (hn : n = ps.length) : Inn B w (List.replicate n (.slice none 0 0)) (firstP 0 ps) := by
  have hv : ∀ i, i < n → nthV (List.replicate n (.slice none 0 0)) i = .slice none 0 0 := fun i hi => by rw [nthV_eq (by simpa using hi)]; simp
  refine ⟨by rw [firstP_len]; simp [hn], fun i hi => ?_, fun i j hij hj k hk => ?_⟩
  · rw [firstP_len] at hi
    rw [hv i (by omega), firstP_nth hi, if_neg (by omega)]; exact OStrs.nil _ _
  · simp at hj
    rw [hv i (by omega)] at hk; simp [Value.ownBlock] at hk
theorem Inn.fill {B C k : Nat} {w w' : World} {us : List Value} {ps : pl.Gs} {q : Value} (h : Inn B w us (firstP k ps)) (hk : k < ps.length) (hC : w.heap.size ≤ C) (hb : ∀ i, i < w.heap.size → (∀ j b, j < us.length → (nthV us j).ownBlock = some b → b = i → w'.heap[i]? = w.heap[i]?)) (hq : OStrs C w' q (pl.nthP ps k)) (hBC : B ≤ C) :
    Inn B w' (us.set k q) (firstP (k + 1) ps) := by
  have hul := h.len
  rw [firstP_len] at hul
  have hlt := h.lt
  refine ⟨by rw [firstP_len]; simp [hul], fun i hi => ?_, fun i j hij hj b hb1 hb2 => ?_⟩
  · rw [firstP_len] at hi
    rw [firstP_nth hi]
    by_cases e : i = k
    · subst e
      rw [nthV_set_same (by omega), if_pos (by omega)]
      exact hq.mono hBC
    · rw [nthV_set_other (by omega) e]
      have h1 := h.each i (by rw [firstP_len]; exact hi)
      rw [firstP_nth hi] at h1
      have h2 : (if i < k + 1 then pl.nthP ps i else []) = (if i < k then pl.nthP ps i else []) := by
        by_cases e2 : i < k
        · rw [if_pos e2, if_pos (by omega)]
        · rw [if_neg e2, if_neg (by omega)]
      rw [h2]
      exact own_keep h1 (fun b hb3 => hb b (World.ownsRow.lt h1 b hb3).2 i b (by omega) hb3 rfl)
  · rw [List.length_set] at hj
    by_cases e : i = k
    · subst e
      rw [nthV_set_same (by omega)] at hb1
      rw [nthV_set_other hj (by omega)] at hb2
      have := (World.ownsRow.lt hq b hb1).1
      have := (hlt j b hj hb2).2
      omega
    · rw [nthV_set_other (by omega) e] at hb1
      by_cases e2 : j = k
      · subst e2
        rw [nthV_set_same (by omega)] at hb2
        have := (World.ownsRow.lt hq b hb2).1
        have := (hlt i b (by omega) hb1).2
        omega
      · rw [nthV_set_other hj e2] at hb2
        exact h.apart i j hij hj b hb1 hb2
theorem HPs.none (B : Nat) (w : World) {ps : pl.Gs} (h : ps.length = 0) : HPs B w (.slice none 0 0) ps := by
  rw [List.length_eq_zero_iff.1 h]; exact HPs.nil B w

end Go.Proofs.Ytadlelcckalcoaa
