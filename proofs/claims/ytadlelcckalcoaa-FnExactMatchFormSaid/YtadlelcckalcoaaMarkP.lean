/- Contracts: slices of slices of strings compared, written and held (the laws' eqStringSS, equalRows, markStringSS, heldStringSS). -/
import Derived.Test.YtadlelcckalcoaaParts
import Derived.Laws.AppendOwnNone
import Derived.Test.YtadlelcckalcoaaLawExW
import Derived.Deep.RegionHeldLaw
namespace Go.Proofs.Ytadlelcckalcoaa
open Go.RowKit
set_option maxRecDepth 100000

theorem HPs.len {B : Nat} {w : World} {v : Value} {ps : pl.Gs} (h : HPs B w v ps) : ∃ a cap, v = .slice a ps.length cap := h.reads.slice

theorem equalTexts_selfM (l : List ByteArray) (va vb : Value) (w : World) (hA : RStrs w va l) (hB : RStrs w vb l) (hl : l.length ≤ 2000000) :
    Calls Try.prog 13 #[va, vb] w fun e w' => e = .returned (.bool true) ∧ Below w.heap.size w w' :=
  (equalTexts_any l l va vb w hA hB hl).mono fun e w' ⟨h1, h2⟩ => ⟨by rw [h1]; simp, h2⟩

set_option maxHeartbeats 2000000 in
theorem eqSS_same (ps : pl.Gs) (va vb : Value) (w : World) (hA : RPs w va ps) (hB : RPs w vb ps) (hl : ps.length ≤ 2000000) (hls : ∀ k, k < ps.length → (pl.nthP ps k).length ≤ 2000000) :
    Calls Try.prog 26 #[va, vb] w fun e w' => e = .returned (.bool true) ∧ Below w.heap.size w w' := by
  obtain ⟨n, hn⟩ : ∃ n, n = ps.length := ⟨_, rfl⟩
  have HN := Lib.hid hn
  have HLS := Lib.hid hls
  have RA := Lib.hid hA
  have RB := Lib.hid hB
  obtain ⟨a0, cap0, rfl⟩ := hA.slice
  obtain ⟨a1, cap1, rfl⟩ := hB.slice
  rw [← hn] at hl RA RB ⊢
  clear hn hA hB hls
  go_enter Try.func26, Try.ntmps26
  go_wp2_with fail
  go_loopw [5] (fun iv wr => ∃ k : Nat, k ≤ n ∧ iv = .int .i64 k ∧ Below w.heap.size w wr) (fun iv _ => n - (intOf iv).toNat)
  case atStart => exact ⟨0, Nat.zero_le _, rfl, Below.refl _ _⟩
  case round =>
    obtain ⟨k, hk, rfl, hbel⟩ := hrel
    by_cases hlt : k < n
    · obtain ⟨b1, o1, u1, rfl, hl1, hc1, hr1⟩ := RA.out.at HN.out hbel hlt
      obtain ⟨b2, o2, u2, rfl, hl2, hc2, hr2⟩ := RB.out.at HN.out hbel hlt
      have hlen := HLS.out k (by rw [← HN.out]; exact hlt)
      have hbw := hbel.size
      have hb1 : b1 < wr.heap.size := by omega
      have hb2 : b2 < wr.heap.size := by omega
      have H1 := Lib.hid hr1
      have H2 := Lib.hid hr2
      clear hr1 hr2
      go_wp2_with fail
      go_region_held3 (fun w' => w'.cell? ⟨b1, o1 + k, none⟩ = some u1 ∧ w'.cell? ⟨b2, o2 + k, none⟩ = some u2 ∧ Below wr.heap.size wr w')
        (first | exact ⟨by simpa using hc1, by simpa using hc2, (Below.refl _ _).drew⟩ | exact ⟨(hbc.cell (p := ⟨b1, o1 + k, none⟩) (by simpa using hb1)).trans (by simpa using hc1), (hbc.cell (p := ⟨b2, o2 + k, none⟩) (by simpa using hb2)).trans (by simpa using hc2), (Below.refl _ _).drew.trans hbc⟩)
        (first | (go_at_call 27; refine (eqStringS_same (pl.nthP ps k) u1 u2 _ (H1.out.1.below (Nat.le_refl _) (Below.refl _ _).drew) (H2.out.1.below (Nat.le_refl _) (Below.refl _ _).drew) hlen).mono ?_; rintro e wc ⟨rfl, hbc⟩))
      have hb3 : Below wr.heap.size wr wc := (Below.refl _ _).drew.trans hbc
      go_wp2
      go_roundw
      case rel => exact ⟨k + 1, by omega, by go_num, hbel.trans (hb3.mono hbw)⟩
      case measure => simp [intOf]; omega
    · obtain rfl : k = n := by omega
      go_wp2_with fail
      go_ret
      exact ⟨rfl, hbel⟩

set_option maxHeartbeats 2000000 in
theorem equalRows_same (ps : pl.Gs) (va vb : Value) (w : World) (hA : RPs w va ps) (hB : RPs w vb ps) (hl : ps.length ≤ 2000000) (hls : ∀ k, k < ps.length → (pl.nthP ps k).length ≤ 2000000) :
    Calls Try.prog 12 #[va, vb] w fun e w' => e = .returned (.bool true) ∧ Below w.heap.size w w' := by
  obtain ⟨n, hn⟩ : ∃ n, n = ps.length := ⟨_, rfl⟩
  have HN := Lib.hid hn
  have HLS := Lib.hid hls
  have RA := Lib.hid hA
  have RB := Lib.hid hB
  obtain ⟨a0, cap0, rfl⟩ := hA.slice
  obtain ⟨a1, cap1, rfl⟩ := hB.slice
  rw [← hn] at hl RA RB ⊢
  clear hn hA hB hls
  go_enter Try.func12, Try.ntmps12
  go_wp2_with fail
  go_loopw [5] (fun iv wr => ∃ k : Nat, k ≤ n ∧ iv = .int .i64 k ∧ Below w.heap.size w wr) (fun iv _ => n - (intOf iv).toNat)
  case atStart => exact ⟨0, Nat.zero_le _, rfl, Below.refl _ _⟩
  case round =>
    obtain ⟨k, hk, rfl, hbel⟩ := hrel
    by_cases hlt : k < n
    · obtain ⟨b1, o1, u1, rfl, hl1, hc1, hr1⟩ := RA.out.at HN.out hbel hlt
      obtain ⟨b2, o2, u2, rfl, hl2, hc2, hr2⟩ := RB.out.at HN.out hbel hlt
      have hlen := HLS.out k (by rw [← HN.out]; exact hlt)
      have hbw := hbel.size
      have hb1 : b1 < wr.heap.size := by omega
      have hb2 : b2 < wr.heap.size := by omega
      have H1 := Lib.hid hr1
      have H2 := Lib.hid hr2
      clear hr1 hr2
      go_wp2_with fail
      go_region_held3 (fun w' => w'.cell? ⟨b1, o1 + k, none⟩ = some u1 ∧ w'.cell? ⟨b2, o2 + k, none⟩ = some u2 ∧ Below wr.heap.size wr w')
        (first | exact ⟨by simpa using hc1, by simpa using hc2, (Below.refl _ _).drew⟩ | exact ⟨(hbc.cell (p := ⟨b1, o1 + k, none⟩) (by simpa using hb1)).trans (by simpa using hc1), (hbc.cell (p := ⟨b2, o2 + k, none⟩) (by simpa using hb2)).trans (by simpa using hc2), (Below.refl _ _).drew.trans hbc⟩)
        (first | (go_at_call 13; refine (equalTexts_selfM (pl.nthP ps k) u1 u2 _ (H1.out.1.below (Nat.le_refl _) (Below.refl _ _).drew) (H2.out.1.below (Nat.le_refl _) (Below.refl _ _).drew) hlen).mono ?_; rintro e wc ⟨rfl, hbc⟩))
      have hb3 : Below wr.heap.size wr wc := (Below.refl _ _).drew.trans hbc
      go_wp2
      go_roundw
      case rel => exact ⟨k + 1, by omega, by go_num, hbel.trans (hb3.mono hbw)⟩
      case measure => simp [intOf]; omega
    · obtain rfl : k = n := by omega
      go_wp2_with fail
      go_ret
      exact ⟨rfl, hbel⟩

/-- the marks of rows, from k on -/
def marksP (k : Nat) (ps : pl.Gs) : pl.Gs := (List.range ps.length).map fun j => marks (k + pl.totTo ps j) (pl.nthP ps j).length
theorem marksP_len (k : Nat) (ps : pl.Gs) : (marksP k ps).length = ps.length := by simp [marksP]
theorem marksP_nth {k : Nat} {ps : pl.Gs} {j : Nat} (h : j < ps.length) : pl.nthP (marksP k ps) j = marks (k + pl.totTo ps j) (pl.nthP ps j).length := by
  rw [pl.nthP_eq (by rw [marksP_len]; exact h)]; simp [marksP]
/-- the first j rows are marked -/
def mixP (k j : Nat) (ps : pl.Gs) : pl.Gs := (List.range ps.length).map fun i => if i < j then marks (k + pl.totTo ps i) (pl.nthP ps i).length else pl.nthP ps i
theorem mixP_len (k j : Nat) (ps : pl.Gs) : (mixP k j ps).length = ps.length := by simp [mixP]
theorem mixP_nth {k j : Nat} {ps : pl.Gs} {i : Nat} (h : i < ps.length) : pl.nthP (mixP k j ps) i = if i < j then marks (k + pl.totTo ps i) (pl.nthP ps i).length else pl.nthP ps i := by
  rw [pl.nthP_eq (by rw [mixP_len]; exact h)]; simp [mixP]
theorem mixP_zero (k : Nat) (ps : pl.Gs) : mixP k 0 ps = ps := by
  apply List.ext_getElem (mixP_len k 0 ps)
  intro i h1 h2
  rw [← pl.nthP_eq h1, mixP_nth h2, if_neg (by omega), pl.nthP_eq h2]
theorem mixP_all (k : Nat) (ps : pl.Gs) : mixP k ps.length ps = marksP k ps := by
  apply List.ext_getElem (by rw [mixP_len, marksP_len])
  intro i h1 h2
  rw [mixP_len] at h1
  rw [← pl.nthP_eq (by rw [mixP_len]; exact h1), ← pl.nthP_eq h2, mixP_nth h1, if_pos h1, marksP_nth h1]
theorem mixP_step {B k j : Nat} {w w' : World} {us : List Value} {ps : pl.Gs} (h : Inn B w us (mixP k j ps)) (hj : j < ps.length) (hu : OStrs B w' (nthV us j) (marks (k + pl.totTo ps j) (pl.nthP ps j).length)) (hg : w.grownBy w' (nthV us j).ownBlock) : Inn B w' us (mixP k (j + 1) ps) := by
  have hul : us.length = ps.length := h.len.trans (mixP_len k j ps)
  refine ⟨by rw [mixP_len]; exact hul, fun i hi => ?_, h.apart⟩
  rw [mixP_len] at hi
  rw [mixP_nth hi]
  by_cases e : i = j
  · subst e
    rw [if_pos (by omega)]; exact hu
  · have h1 := h.each i (by rw [mixP_len]; exact hi)
    rw [mixP_nth hi] at h1
    have h2 : (if i < j + 1 then marks (k + pl.totTo ps i) (pl.nthP ps i).length else pl.nthP ps i) = (if i < j then marks (k + pl.totTo ps i) (pl.nthP ps i).length else pl.nthP ps i) := by
      by_cases e2 : i < j
      · rw [if_pos e2, if_pos (by omega)]
      · rw [if_neg e2, if_neg (by omega)]
    rw [h2]
    refine own_keep h1 (fun b hb => hg.block b (World.ownsRow.lt h1 b hb).2 (fun e3 => ?_))
    by_cases e4 : i < j
    · exact h.apart i j e4 (by rw [hul]; exact hj) b hb e3.symm
    · exact h.apart j i (by omega) (by rw [hul]; exact hi) b e3.symm hb

set_option maxHeartbeats 2000000 in
theorem markSS_any (B k : Nat) (v : Value) (us : List Value) (ps : pl.Gs) (w : World) (h : OPs B w v us ps) (hk : 0 < k) (hk2 : k + pl.totTo ps ps.length < 100000000) (hl : ps.length ≤ 2000000) :
    Calls Try.prog 31 #[v, .int .i64 k] w fun e w' => e = .returned (.int .i64 ((k + pl.totTo ps ps.length : Nat) : Int)) ∧ OPs B w' v us (marksP k ps) ∧ Wrote us w w' := by
  have hrd := h.reads
  obtain ⟨n, hn⟩ : ∃ n, n = ps.length := ⟨_, rfl⟩
  have hun : us.length = n := by rw [hn]; exact h.2.len
  obtain ⟨a0, cap0, rfl⟩ := hrd.slice
  have HK2 := Lib.hid hk2
  have h0 : OPs B w (.slice a0 n cap0) us (mixP k 0 ps) := by rw [mixP_zero, hn]; exact h
  have HN := Lib.hid hn
  have HU := Lib.hid hun
  rw [← hn] at hl ⊢
  clear h hrd hn hun hk2
  go_enter Try.func31, Try.ntmps31
  go_wp2_with fail
  go_loopw [1, 5] (fun kv iv wr => ∃ j : Nat, j ≤ n ∧ kv = .int .i64 ((k + pl.totTo ps j : Nat) : Int) ∧ iv = .int .i64 j ∧ OPs B wr (.slice a0 n cap0) us (mixP k j ps) ∧ Wrote us w wr) (fun _ iv _ => n - (intOf iv).toNat)
  case atStart => exact ⟨0, Nat.zero_le _, rfl, rfl, h0, Wrote.refl us w⟩
  case round =>
    obtain ⟨j, hj, rfl, rfl, hop, hwr⟩ := hrel
    by_cases hlt : j < n
    · have hjp : Hid (j < ps.length) := Lib.hid (by rw [← HN.out]; exact hlt)
      obtain ⟨b1, o1, u, rfl, hlb, hc, hru⟩ := hop.reads.at (by rw [mixP_len]; exact HN.out) (Below.refl _ _) hlt
      have hee := hop.2.each j (by rw [mixP_len]; exact hjp.out)
      rw [mixP_nth hjp.out, if_neg (by omega)] at hee
      /- the row that is read is row j -/
      have hu : u = nthV us j := by
        rcases hop.1.2 with ⟨hv, _⟩ | ⟨g, cp, cu, hv, _⟩
        · cases hv
        · simp only [Value.slice.injEq, Option.some.injEq, Addr.mk.injEq] at hv
          obtain ⟨⟨rfl, rfl, _⟩, _, _⟩ := hv
          have hown := hop.1
          rw [HU.out] at hown
          have := World.ownsRow.cellAt hown j (by omega)
          rw [Nat.zero_add] at hc
          rw [hc] at this
          rw [nthV_eq (by rw [HU.out]; exact hlt)]
          rw [List.getElem?_eq_getElem (by rw [HU.out]; exact hlt)] at this
          exact Option.some.inj this
      subst hu
      have htm := pl.totTo_le (ps := ps) (k := j + 1) (m := ps.length) (by have := hjp.out; omega)
      have hts := pl.totTo_succ ps j
      have hk3 : k + pl.totTo ps j + (pl.nthP ps j).length < 100000000 := by have := HK2.out; omega
      have hkpos : 0 < k + pl.totTo ps j := by omega
      have HOP := Lib.hid hop
      have HWR := Lib.hid hwr
      have HTS := Lib.hid hts
      have HEE := Lib.hid hee
      clear hop hwr hru hts htm hee
      obtain ⟨K, HKK⟩ : ∃ K, Hid (k + pl.totTo ps j = K) := ⟨_, Lib.hid rfl⟩
      rw [HKK.out] at hk3 hkpos ⊢
      go_wp2_with fail
      refine (markStringS_any B K (nthV us j) (pl.nthP ps j) _ HEE.out hkpos hk3).mono ?_
      rintro e w2 ⟨rfl, hm, hg⟩
      have hi2 : Inn B w2 us (mixP k (j + 1) ps) := mixP_step HOP.out.2 hjp.out (by rw [HKK.out]; exact hm) hg
      have ho2 : w2.ownsRow B 23 1 (.slice (some ⟨b1, o1, none⟩) n cap0) us.length us := own_keep HOP.out.1 (fun b hb => hg.block b (World.ownsRow.lt HOP.out.1 b hb).2 (fun e => types_apart HOP.out.1 HEE.out (by decide) b hb e.symm))
      have HOP2 := Lib.hid (show OPs B w2 (.slice (some ⟨b1, o1, none⟩) n cap0) us (mixP k (j + 1) ps) from ⟨ho2, hi2⟩)
      have HWR2 := Lib.hid (HWR.out.grown (by rw [HU.out]; exact hlt) hg)
      have HKN : Hid (K + (pl.nthP ps j).length = k + pl.totTo ps (j + 1)) := Lib.hid (by rw [HTS.out, ← HKK.out]; omega)
      clear hm hg hi2 ho2
      go_wp2_with fail
      go_roundw
      case rel => exact ⟨j + 1, by omega, by rw [← HKN.out, Int.natCast_add], by go_num, HOP2.out, HWR2.out⟩
      case measure => simp [intOf]; omega
    · obtain rfl : j = n := by omega
      have hall : Hid (mixP k j ps = marksP k ps) := Lib.hid (by rw [HN.out]; exact mixP_all k ps)
      go_wp2_with fail
      go_ret
      exact ⟨rfl, by rw [← hall.out]; exact hop, hwr⟩

set_option maxHeartbeats 2000000 in
theorem heldSS_any (k : Nat) (ps : pl.Gs) (v : Value) (w : World) (hr : RPs w v (marksP k ps)) (hk : 0 < k) (hk2 : k + pl.totTo ps ps.length < 100000000) (hl : ps.length ≤ 2000000) :
    Calls Try.prog 32 #[v, .int .i64 k] w fun e w' => e = .returned (.int .i64 ((k + pl.totTo ps ps.length : Nat) : Int)) ∧ Below w.heap.size w w' := by
  obtain ⟨n, hn⟩ : ∃ n, n = ps.length := ⟨_, rfl⟩
  have HR := Lib.hid hr
  obtain ⟨a0, cap0, rfl⟩ := hr.slice
  rw [marksP_len] at HR ⊢
  have HK2 := Lib.hid hk2
  have HN := Lib.hid hn
  rw [← hn] at hl HR ⊢
  clear hr hn hk2
  go_enter Try.func32, Try.ntmps32
  go_wp2_with fail
  go_loopw [1, 5] (fun kv iv wr => ∃ j : Nat, j ≤ n ∧ kv = .int .i64 ((k + pl.totTo ps j : Nat) : Int) ∧ iv = .int .i64 j ∧ Below w.heap.size w wr) (fun _ iv _ => n - (intOf iv).toNat)
  case atStart => exact ⟨0, Nat.zero_le _, rfl, rfl, Below.refl _ _⟩
  case round =>
    obtain ⟨j, hj, rfl, rfl, hbel⟩ := hrel
    by_cases hlt : j < n
    · have hjp : Hid (j < ps.length) := Lib.hid (by rw [← HN.out]; exact hlt)
      obtain ⟨b1, o1, u, rfl, hlb, hc, hru⟩ := HR.out.at (by rw [marksP_len]; exact HN.out) hbel hlt
      rw [marksP_nth hjp.out] at hru
      have htm := pl.totTo_le (ps := ps) (k := j + 1) (m := ps.length) (by have := hjp.out; omega)
      have hts := pl.totTo_succ ps j
      have hk3 : k + pl.totTo ps j + (pl.nthP ps j).length < 100000000 := by have := HK2.out; omega
      have hkpos : 0 < k + pl.totTo ps j := by omega
      have HTS := Lib.hid hts
      have HRU := Lib.hid hru.1
      have HB := Lib.hid hbel
      clear hru hts htm hbel
      obtain ⟨K, HKK⟩ : ∃ K, Hid (k + pl.totTo ps j = K) := ⟨_, Lib.hid rfl⟩
      rw [HKK.out] at hk3 hkpos HRU ⊢
      have hneg : ¬ ((K + (pl.nthP ps j).length : Nat) : Int) < 0 := by omega
      go_wp2_with fail
      refine (heldStringS_any K (pl.nthP ps j).length u _ HRU.out hkpos hk3).mono ?_
      rintro e w2 ⟨rfl, hb2⟩
      have HB2 := Lib.hid (HB.out.trans (hb2.mono HB.out.size))
      have HKN : Hid (K + (pl.nthP ps j).length = k + pl.totTo ps (j + 1)) := Lib.hid (by rw [HTS.out, ← HKK.out]; omega)
      clear hb2
      rw [HKN.out] at hneg ⊢
      go_wp2_with fail
      go_roundw
      case rel => exact ⟨j + 1, by omega, by first | rfl | go_num, by go_num, HB2.out⟩
      case measure => simp [intOf]; omega
    · obtain rfl : j = n := by omega
      go_wp2_with fail
      go_ret
      exact ⟨rfl, hbel⟩
end Go.Proofs.Ytadlelcckalcoaa
