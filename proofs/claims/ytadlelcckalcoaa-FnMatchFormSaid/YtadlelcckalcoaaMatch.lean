/- Contract: match of the program. -/
import Derived.Test.YtadlelcckalcoaaPlainOf
import Derived.Test.YtadlelcckalcoaaPieces
import Derived.Test.YtadlelcckalcoaaDraw2
namespace Go.Proofs.Ytadlelcckalcoaa
open Go.RowKit Go.Maps
set_option maxRecDepth 100000
set_option linter.unusedVariables false

theorem MapV.congr {b n : Nat} {w : World} {vs us : pl.Vals} (h : MapV b n w vs) (e : ∀ k, vs k = us k) : MapV b n w us := by
  obtain rfl : vs = us := funext e
  exact h
theorem MapV.drew {b n : Nat} {w : World} {vs : pl.Vals} (h : MapV b n w vs) : MapV b n w.drew vs := h
/-- the store of a value, as an equation on the operation's run -/
theorem MapV.put_new {b n : Nat} {w : World} {vs : pl.Vals} (h : MapV b n w vs) (hn : n < maxLen) (s y : ByteArray) (hs : s.size ≤ maxLen) (hy : y.size ≤ maxLen) :
    ∃ w', (Instr.mapUpdate 83 (.map (some b)) (.string s) (.string y)).run Try.prog w = .ok () w' ∧ MapV b (n + 1) w' (fun k => if k = s.data.toList then some y.data.toList else vs k) ∧ w.grownBy w' (some b) := by
  obtain ⟨D, h1, h2, h3⟩ := h
  obtain ⟨w', hr, h4, h5⟩ := h1.update keyS Try.underlying83 hn (Go.WideMaps.keyOf_string_mk Try.underlying9 hs) (plainElem_string Try.underlying9 hy)
  obtain ⟨f1, f2⟩ := putV_facts h1.isMap s.data.toList y.data.toList h2 h3
  exact ⟨w', hr, ⟨_, h4, f1, f2⟩, h5⟩
theorem MapV.put_old {b n : Nat} {w : World} {vs : pl.Vals} (h : MapV b n w vs) (hn : n < maxLen) (s y : ByteArray) (hs : s.size ≤ maxLen) (hy : y.size ≤ maxLen) (hold : (vs s.data.toList).isSome = true) :
    ∃ w', (Instr.mapUpdate 83 (.map (some b)) (.string s) (.string y)).run Try.prog w = .ok () w' ∧ MapV b n w' (fun k => if k = s.data.toList then some y.data.toList else vs k) ∧ w.grownBy w' (some b) := by
  obtain ⟨D, h1, h2, h3⟩ := h
  obtain ⟨w', hr, h4, h5⟩ := h1.update keyS Try.underlying83 hn (Go.WideMaps.keyOf_string_mk Try.underlying9 hs) (plainElem_string Try.underlying9 hy)
  obtain ⟨f1, f2⟩ := putV_facts h1.isMap s.data.toList y.data.toList h2 h3
  have hsz : Maps.size (D.put (.string s.data.toList) (.lit (.string y.data.toList))) ≤ n := by
    rw [size_put (h1.tidy keyS), h2, hold, if_pos rfl]
    exact h1.size_le
  exact ⟨w', hr, ⟨_, (own_shrink h4).mono hsz, f1, f2⟩, h5⟩

/-- v reads as these pieces, has room for them, and does not lie in block b -/
structure PcAway (b : Nat) (w : World) (v : Value) (ps : List pl.Pc) : Prop where
  reads : RPc w v ps
  room : ∃ a cap, v = .slice a ps.length cap ∧ ps.length ≤ cap
  away : ∀ x n c, v = .slice (some x) n c → 0 < n → x.block ≠ b
theorem PcAway.grown {b : Nat} {w w' : World} {v : Value} {ps : List pl.Pc} (h : PcAway b w v ps) (hg : w.grownBy w' (some b)) : PcAway b w' v ps := by
  refine ⟨?_, h.room, h.away⟩
  rcases h.reads with h1 | ⟨h0, b', o, cap, hv, hlt, hc⟩
  · exact .inl h1
  · have hne := h.away _ _ _ hv h0
    refine .inr ⟨h0, b', o, cap, hv, Nat.lt_of_lt_of_le hlt hg.size, fun i hi => ?_⟩
    obtain ⟨c1, c2⟩ := hc i hi
    exact ⟨hg.cell c1 (by intro e; injection e with e; exact hne e), hg.cell c2 (by intro e; injection e with e; exact hne e)⟩

theorem PcAway.below {b C : Nat} {w w' : World} {v : Value} {ps : List pl.Pc} (h : PcAway b w v ps) (hC : w.heap.size ≤ C) (hb : Below C w w') : PcAway b w' v ps := ⟨h.reads.below hC hb, h.room, h.away⟩
theorem PcAway.tail {b b' o cap : Nat} {w : World} {p : pl.Pc} {ps : List pl.Pc} (h : PcAway b w (.slice (some ⟨b', o, none⟩) (ps.length + 1) cap) (p :: ps)) : PcAway b w (.slice (if cap = 1 then some ⟨b', o, none⟩ else some ⟨b', o + 2, none⟩) ps.length (cap - 1)) ps := by
  have hne : b' ≠ b := h.away ⟨b', o, none⟩ _ _ rfl (by simp)
  obtain ⟨a, c, hv, hc⟩ := h.room
  injection hv with _ _ h3
  rw [List.length_cons] at hc
  refine ⟨?_, ⟨_, _, rfl, by omega⟩, fun x n c hx _ => ?_⟩
  · rcases Nat.eq_zero_or_pos ps.length with h0 | h0
    · exact .inl ⟨List.length_eq_zero_iff.1 h0, _, _, by rw [h0]⟩
    · rw [if_neg (by omega)]
      rcases h.reads with ⟨hn, _⟩ | ⟨_, b2, o2, c2, hv2, hlt, hcl⟩
      · cases hn
      · injection hv2 with e1 _ _
        injection e1 with e1
        injection e1 with e1 e2 _
        subst e1 e2
        refine .inr ⟨h0, b', o + 2, _, rfl, hlt, fun i hi => ?_⟩
        obtain ⟨k1, k2⟩ := hcl (i + 1) (by rw [List.length_cons]; omega)
        rw [show pl.nthQ (p :: ps) (i + 1) = pl.nthQ ps i from rfl] at k1 k2
        rw [show o + (i + 1) * 2 = o + 2 + i * 2 from by omega] at k1 k2
        exact ⟨k1, k2⟩
  · injection hx with e1 _ _
    split at e1
    · injection e1 with e1; rw [← e1]; exact hne
    · injection e1 with e1; rw [← e1]; exact hne

namespace pl
theorem match_some {fs : FL} {n p : ByteArray} {v : List UInt8} (h : valP (lookL fs) n p = some v) (r : List Tok) (s : List UInt8) : matchT (tokP n p ++ r) fs s = if v.isPrefixOf s = true then matchT r fs (s.drop v.length) else none := by
  by_cases hz : n.size = 0
  · rw [valP_plain _ p hz] at h
    injection h with h
    rw [tokP_plain p hz, matchT_run, h]
  · rw [valP_hole _ p hz] at h
    rw [tokP_hole p hz]
    exact matchT_old h r s
theorem val_none {vs : Vals} {n p : ByteArray} (h : valP vs n p = none) : ¬ n.size = 0 ∧ vs n.data.toList = none := by
  by_cases hz : n.size = 0
  · rw [valP_plain _ p hz] at h; cases h
  · rw [valP_hole _ p hz] at h; exact ⟨hz, h⟩
def tryK (r : List Tok) (fs : FL) (n : Nm) (s : List UInt8) (k : Nat) : Option FL := matchT r (fs ++ [(n, s.take k)]) (s.drop k)
theorem match_new {fs : FL} {n p : ByteArray} (h : valP (lookL fs) n p = none) (r : List Tok) (s : List UInt8) : matchT (tokP n p ++ r) fs s = findK (tryK r fs n.data.toList s) 0 (s.length + 1) := by
  obtain ⟨hz, hl⟩ := val_none h
  rw [tokP_hole p hz]
  exact matchT_new hl r s
theorem ext_take (s : ByteArray) (k : Nat) : (s.extract 0 k).data.toList = s.data.toList.take k := by rw [Lib.extract_data]; simp
theorem ext_drop (s : ByteArray) (k : Nat) : (s.extract k s.size).data.toList = s.data.toList.drop k := by
  rw [Lib.extract_data, ← len_eq, List.take_of_length_le (by rw [List.length_drop]; exact Nat.le_refl _)]
theorem trim_hit {s v : List UInt8} (h : v.isPrefixOf s = true) : Lib.trimPrefix s v = s.drop v.length := by
  unfold Lib.trimPrefix Lib.hasPrefix; rw [if_pos h]
end pl

/-- how far the values of a hole have been tried -/
def RdTry (b n : Nat) (ps : List pl.Pc) (fs : pl.FL) (nm t : ByteArray) (w : World) (iv : Value) (wr : World) : Prop :=
  ∃ k : Nat, k ≤ t.size + 1 ∧ iv = .int .i64 k ∧ Hid (w.grownBy wr (some b)) ∧ Hid ((k = 0 ∧ MapV b n wr (pl.lookL fs)) ∨ ∃ j, k = j + 1 ∧ MapV b (n + 1) wr (pl.lookL (fs ++ [(nm.data.toList, t.data.toList.take j)]))) ∧
    Hid (pl.findK (pl.tryK (pl.flatP ps) fs nm.data.toList t.data.toList) 0 (t.data.toList.length + 1) = pl.findK (pl.tryK (pl.flatP ps) fs nm.data.toList t.data.toList) k (t.data.toList.length + 1 - k))
/-- the next value of the hole is stored -/
theorem try_put {b n : Nat} {fs : pl.FL} {nm : ByteArray} {k : Nat} {wr : World} {t : ByteArray} (hl : pl.lookL fs nm.data.toList = none) (hn : n < 100000) (hnm : nm.size ≤ maxLen) (ht : t.size ≤ 1000)
    (h : (k = 0 ∧ MapV b n wr (pl.lookL fs)) ∨ ∃ j, k = j + 1 ∧ MapV b (n + 1) wr (pl.lookL (fs ++ [(nm.data.toList, t.data.toList.take j)]))) :
    ∃ w', (Instr.mapUpdate 83 (.map (some b)) (.string nm) (.string (t.extract 0 k))).run Try.prog wr.drew = .ok () w' ∧ MapV b (n + 1) w' (pl.lookL (fs ++ [(nm.data.toList, t.data.toList.take k)])) ∧ wr.drew.grownBy w' (some b) := by
  have hy : (t.extract 0 k).size ≤ maxLen := by rw [ByteArray.size_extract]; unfold maxLen; omega
  rcases h with ⟨_, h⟩ | ⟨j, _, h⟩
  · obtain ⟨w', h1, h2, h3⟩ := h.drew.put_new (by unfold maxLen; omega) nm (t.extract 0 k) hnm hy
    exact ⟨w', h1, h2.congr (fun m => by rw [pl.lookL_more hl, pl.ext_take]), h3⟩
  · obtain ⟨w', h1, h2, h3⟩ := h.drew.put_old (by unfold maxLen; omega) nm (t.extract 0 k) hnm hy (by rw [pl.lookL_more hl, if_pos rfl]; rfl)
    refine ⟨w', h1, h2.congr (fun m => ?_), h3⟩
    rw [pl.lookL_more hl, pl.lookL_more hl, pl.ext_take]
    by_cases e : m = nm.data.toList
    · rw [if_pos e, if_pos e]
    · rw [if_neg e, if_neg e, if_neg e]

def MatchPost (b n : Nat) (ps : List pl.Pc) (fs : pl.FL) (t : ByteArray) (w : World) (e : Ending) (w' : World) : Prop :=
  w.grownBy w' (some b) ∧ ((∃ gs, pl.matchT (pl.flatP ps) fs t.data.toList = some gs ∧ e = .returned (.bool true) ∧ MapV b (n + ps.length) w' (pl.lookL gs)) ∨ (pl.matchT (pl.flatP ps) fs t.data.toList = none ∧ e = .returned (.bool false) ∧ MapV b n w' (pl.lookL fs)))

set_option maxHeartbeats 4000000 in
theorem match_any (b : Nat) : ∀ (ps : List pl.Pc) (n : Nat) (v : Value) (t : ByteArray) (fs : pl.FL) (w : World), PcAway b w v ps → MapV b n w (pl.lookL fs) → pl.PcsOk ps → ps.length ≤ 120 → n + ps.length ≤ 1000 → t.size ≤ 120 →
    Calls Try.prog 60 #[.map (some b), v, .string t] w (MatchPost b n ps fs t w)
  | [], n, v, t, fs, w, hr, hm, hok, hl, hn, ht => by
    obtain ⟨a, cap, rfl, _⟩ := hr.room
    have HM := Lib.hid hm
    clear hr hm hok
    by_cases h0 : t.size = 0
    · have he := pl.empty_of h0
      have HE : Hid (pl.matchT (pl.flatP []) fs t.data.toList = some fs) := Lib.hid (by
        rw [show t.data.toList = [] from List.length_eq_zero_iff.1 (by rw [pl.len_eq]; exact h0)]; rfl)
      clear h0
      go_enter Try.func60, Try.ntmps60
      go_wp2_with fail
      go_ret
      exact ⟨grown_refl' , .inl ⟨fs, HE.out, rfl, HM.out⟩⟩
    · have he := pl.nonempty_of h0
      have HE : Hid (pl.matchT (pl.flatP []) fs t.data.toList = none) := Lib.hid (by
        show pl.matchT [] fs t.data.toList = none
        rw [pl.matchT_end, if_neg (fun e => h0 (by rw [← pl.len_eq, e]; rfl))])
      clear h0
      go_enter Try.func60, Try.ntmps60
      go_wp2_with fail
      go_ret
      exact ⟨grown_refl' , .inr ⟨HE.out, rfl, HM.out⟩⟩
  | (nm, pt) :: ps, n, v, t, fs, w, hr, hm, hok, hl, hn, ht => by
    have ih := match_any b ps
    have IH := Lib.hid ih
    obtain ⟨a, cap, rfl, hcap⟩ := hr.room
    rcases hr.reads with ⟨hnil, _⟩ | ⟨_, b', o, c', hv, hlt, hc⟩
    · cases hnil
    · injection hv with h1 h2 h3
      subst h1; subst h3
      have hne : b' ≠ b := hr.away ⟨b', o, none⟩ _ _ rfl (by simp)
      obtain ⟨c0, c1⟩ := hc 0 (by simp)
      rw [show pl.nthQ ((nm, pt) :: ps) 0 = (nm, pt) from rfl] at c0 c1
      have hc0 : w.cell? ⟨b', o, none⟩ = some (.string nm) := by simpa using c0
      have hc1 : w.cell? ⟨b', o + 1, none⟩ = some (.string pt) := by simpa using c1
      obtain ⟨N, hN⟩ : ∃ N, ps.length = N := ⟨_, rfl⟩
      have HN := Lib.hid hN
      rw [List.length_cons, hN] at hcap hl hn h2 ⊢
      have hNi : ((N : Int) + 1 == 0) = false := beq_eq_false_iff_ne.2 (by omega)
      have hNp : (0 : Int) < (N : Int) + 1 := by omega
      have hN1 : (1 : Int) ≤ (N : Int) + 1 := by omega
      have hN2 : (N : Int) + 1 ≤ (cap : Int) := by omega
      have HM := Lib.hid hm
      have HOK := Lib.hid hok
      clear ih hm hok h2 c0 c1 hN
      go_enter Try.func60, Try.ntmps60
      go_wp2_with fail
      go_region
      have HTL := Lib.hid (PcAway.tail (p := (nm, pt)) (ps := ps) hr)
      rw [HN.out] at HTL
      clear hr
      obtain ⟨rv, HRV⟩ : ∃ rv, Hid (Value.slice (if cap = 1 then some ⟨b', o, none⟩ else some ⟨b', o + 2, none⟩) N (cap - 1) = rv) := ⟨_, Lib.hid rfl⟩
      rw [HRV.out] at HTL ⊢
      have hbA : Below w.heap.size w (w.alloc (.cells #[.string nm, .string pt] 97)).drew := ((Below.refl _ _).alloc (Nat.le_refl _) _).drew
      have hcA : (w.alloc (.cells #[.string nm, .string pt] 97)).drew.cell? ⟨w.heap.size, 0, none⟩ = some (.string nm) := by simp
      have hcB : (w.alloc (.cells #[.string nm, .string pt] 97)).drew.cell? ⟨w.heap.size, 1, none⟩ = some (.string pt) := by simp
      have hbl := HM.out.lt
      have HM1 := Lib.hid (HM.out.below hbA (Nat.le_refl _))
      have HT1 := Lib.hid (HTL.out.below (Nat.le_refl _) hbA)
      have hnm8 : nm.size ≤ 8 := (HOK.out.size (nm, pt) List.mem_cons_self).1
      have HOK2 : Hid (pl.PcsOk ps) := Lib.hid ⟨fun q hq => HOK.out.name q (List.mem_cons_of_mem _ hq), fun q hq => HOK.out.size q (List.mem_cons_of_mem _ hq)⟩
      have HB1 := Lib.hid hbA
      have hAs : w.heap.size < (w.alloc (.cells #[.string nm, .string pt] 97)).drew.heap.size := by show w.heap.size < (w.alloc (.cells #[.string nm, .string pt] 97)).heap.size; simp
      obtain ⟨w1, HW1⟩ : ∃ u, Hid ((w.alloc (.cells #[.string nm, .string pt] 97)).drew = u) := ⟨_, Lib.hid rfl⟩
      rw [HW1.out] at hcA hcB HM1 HT1 HB1 hAs ⊢
      obtain ⟨A, HA⟩ : ∃ A, Hid (w.heap.size = A) := ⟨_, Lib.hid rfl⟩
      rw [HA.out] at hcA hcB hAs hbl ⊢
      clear hbA hc0 hc1 hc hlt
      go_wp2_with fail
      refine (plainOf_any b n (pl.lookL fs) nm pt _ HM1.out (by unfold maxLen; omega)).mono ?_
      rintro e w2 ⟨hb2, hres⟩
      have HM2 := Lib.hid (HM1.out.below hb2 (Nat.le_refl _))
      have HT2 := Lib.hid (HT1.out.below (Nat.le_refl _) hb2)
      have hc2 : w2.cell? ⟨A, 0, none⟩ = some (.string nm) := (hb2.cell (p := ⟨A, 0, none⟩) hAs).trans hcA
      have HG2 : Hid (w.grownBy w2 (some b)) := Lib.hid (grown_of_below (HB1.out.trans (hb2.mono HB1.out.size)))
      clear hb2 hcA hcB
      rcases hres with ⟨x, hx, rfl⟩ | ⟨hx, rfl⟩
      · have HMT := Lib.hid (pl.match_some hx (pl.flatP ps) t.data.toList)
        clear hx hc2
        go_wp2_with fail
        refine (Try.strings_CutPrefix t (pl.bs x) _).mono ?_
        rintro e w3 ⟨rfl, rfl⟩
        rw [pl.bs_data]
        cases hp : x.isPrefixOf t.data.toList with
        | false =>
          have hq : Lib.hasPrefix t.data.toList x = false := hp
          rw [hp] at HMT
          rw [hq]
          have HE : Hid (pl.matchT (pl.flatP ((nm, pt) :: ps)) fs t.data.toList = none) := Lib.hid (by rw [pl.flatP_cons, HMT.out]; rfl)
          clear hp hq
          go_wp2_with fail
          go_ret
          exact ⟨HG2.out, .inr ⟨HE.out, rfl, HM2.out⟩⟩
        | true =>
          have hq : Lib.hasPrefix t.data.toList x = true := hp
          rw [hp] at HMT
          rw [hq, pl.trim_hit hp]
          have hdl : (pl.bs (t.data.toList.drop x.length)).size ≤ 120 := by show (t.data.toList.drop x.length).length ≤ _; rw [List.length_drop, pl.len_eq]; omega
          have HE : Hid (pl.matchT (pl.flatP ((nm, pt) :: ps)) fs t.data.toList = pl.matchT (pl.flatP ps) fs (pl.bs (t.data.toList.drop x.length)).data.toList) := Lib.hid (by rw [pl.flatP_cons, HMT.out, pl.bs_data]; rfl)
          obtain ⟨y, HY⟩ : ∃ y, Hid (pl.bs (t.data.toList.drop x.length) = y) := ⟨_, Lib.hid rfl⟩
          have hye : (ByteArray.mk (t.data.toList.drop x.length).toArray) = y := HY.out
          rw [HY.out] at hdl HE
          rw [hye]
          clear hp hq hye
          go_wp2_with fail
          refine (IH.out n rv y fs _ HT2.out HM2.out HOK2.out (by rw [HN.out]; omega) (by rw [HN.out]; omega) hdl).mono ?_
          rintro e w4 ⟨hg4, hres4⟩
          have HG4 := Lib.hid (grown_tr HG2.out hg4)
          clear hg4
          rcases hres4 with ⟨gs, hgs, rfl, hm4⟩ | ⟨hgs, rfl, hm4⟩
          · have HS := Lib.hid (HE.out.trans hgs)
            have HM4 := Lib.hid hm4
            clear hgs hm4
            go_wp2_with fail
            go_ret
            exact ⟨HG4.out, .inl ⟨gs, HS.out, rfl, HM4.out.mono (by rw [List.length_cons]; omega)⟩⟩
          · have HS := Lib.hid (HE.out.trans hgs)
            have HM4 := Lib.hid hm4
            clear hgs hm4
            go_wp2_with fail
            go_ret
            exact ⟨HG4.out, .inr ⟨HS.out, rfl, HM4.out⟩⟩
      · have HMT := Lib.hid (pl.match_new hx (pl.flatP ps) t.data.toList)
        obtain ⟨hz, hln⟩ := pl.val_none hx
        have HLN := Lib.hid hln
        have HC2 := Lib.hid hc2
        have hA2 : A < w2.heap.size := World.block_lt_of_cell? w2 _ hc2
        clear hx hz hln hc2
        go_wp2_with fail
        go_loopw [47] (fun iv wr => RdTry b n ps fs nm t w2 iv wr) (fun iv _ => t.size + 1 - (intOf iv).toNat)
        case atStart => exact ⟨0, Nat.zero_le _, rfl, Lib.hid grown_refl', Lib.hid (.inl ⟨rfl, HM2.out⟩), Lib.hid rfl⟩
        case round =>
          obtain ⟨k, hk, rfl, HG, HS, HF⟩ := hrel
          by_cases hlt : k < t.size + 1
          · have hki : (k : Int) < (t.size : Int) + 1 := by omega
            obtain ⟨w', hrun, hm', hg'⟩ := try_put HLN.out (by omega) (by unfold maxLen; omega) (by omega) HS.out
            have hcn : wr.cell? ⟨A, 0, none⟩ = some (.string nm) := HG.out.cell HC2.out (by intro e; have e2 : A = b := Option.some.inj e; omega)
            have HM' := Lib.hid hm'
            have HG' : Hid (w2.grownBy w' (some b)) := Lib.hid (grown_tr (grown_drewN HG.out 1) hg')
            have hkl : (k : Int) ≤ (t.size : Int) := by omega
            clear hm' hg'
            go_wp2_with fail
            go_region
            have HPA := Lib.hid (HT2.out.grown HG'.out)
            have HST := Lib.hid (pl.ext_drop t k)
            have hyz : (t.extract k t.size).size ≤ 120 := by rw [ByteArray.size_extract]; omega
            obtain ⟨y, HY⟩ : ∃ y, Hid (t.extract k t.size = y) := ⟨_, Lib.hid rfl⟩
            have hye : t.extract k t.size = y := HY.out
            rw [HY.out] at HST hyz
            go_wp2_with fail
            refine (IH.out (n + 1) rv y (fs ++ [(nm.data.toList, t.data.toList.take k)]) _ HPA.out HM'.out HOK2.out (by rw [HN.out]; omega) (by rw [HN.out]; omega) hyz).mono ?_
            rintro e w4 ⟨hg4, hres4⟩
            have HG4 := Lib.hid (grown_tr HG'.out hg4)
            rw [HST.out] at hres4
            have HTK : Hid (pl.matchT (pl.flatP ps) (fs ++ [(nm.data.toList, t.data.toList.take k)]) (t.data.toList.drop k) = pl.tryK (pl.flatP ps) fs nm.data.toList t.data.toList k) := Lib.hid rfl
            rw [HTK.out] at hres4
            have HLT : Hid (t.data.toList.length + 1 - k = (t.data.toList.length - k) + 1) := Lib.hid (by rw [pl.len_eq]; omega)
            rw [HLT.out] at HF
            clear hg4 hrun hye
            rcases hres4 with ⟨gs, hgs, rfl, hm4⟩ | ⟨hgs, rfl, hm4⟩
            · have HS4 : Hid (pl.matchT (pl.flatP ((nm, pt) :: ps)) fs t.data.toList = some gs) := Lib.hid (by rw [pl.flatP_cons, HMT.out, HF.out, pl.findK_hit hgs])
              have HM4 := Lib.hid hm4
              clear hgs hm4
              go_wp2_with fail
              go_ret
              exact ⟨grown_tr HG2.out HG4.out, .inl ⟨gs, HS4.out, rfl, HM4.out.mono (by rw [List.length_cons]; omega)⟩⟩
            · have HF4 : Hid (pl.findK (pl.tryK (pl.flatP ps) fs nm.data.toList t.data.toList) 0 (t.data.toList.length + 1) = pl.findK (pl.tryK (pl.flatP ps) fs nm.data.toList t.data.toList) (k + 1) (t.data.toList.length + 1 - (k + 1))) := Lib.hid (by
                rw [HF.out, pl.findK_miss hgs, show t.data.toList.length + 1 - (k + 1) = t.data.toList.length - k from by omega])
              have HM4 := Lib.hid hm4
              clear hgs hm4
              go_wp2_with fail
              go_roundw
              case rel => exact ⟨k + 1, by omega, by go_num, HG4, Lib.hid (.inr ⟨k, rfl, HM4.out⟩), HF4⟩
              case measure => simp [intOf]; omega
          · obtain rfl : k = t.size + 1 := by omega
            have HS4 : Hid (pl.matchT (pl.flatP ((nm, pt) :: ps)) fs t.data.toList = none) := Lib.hid (by
              rw [pl.flatP_cons, HMT.out, HF.out, pl.len_eq, Nat.sub_self]; rfl)
            have hcn : wr.cell? ⟨A, 0, none⟩ = some (.string nm) := HG.out.cell HC2.out (by intro e; have e2 : A = b := Option.some.inj e; omega)
            obtain ⟨j, _, hmj⟩ := HS.out.resolve_left (fun h => by omega)
            have HMJ := Lib.hid hmj
            have hki : ¬ (t.size : Int) + 1 < (t.size : Int) + 1 := by omega
            clear hmj
            go_wp2_with (at_delete; refine wpList_drop_old rfl _ _ rfl b n _ rfl HMJ.out nm rfl (by unfold maxLen; omega) (by rw [pl.lookL_more HLN.out, if_pos rfl]; rfl) ?_)
            intro w5 hm5 hg5
            have HM5 := Lib.hid (hm5.congr (us := pl.lookL fs) (fun m => by
              rw [pl.lookL_more HLN.out]
              by_cases e : m = nm.data.toList
              · rw [if_pos e, e, HLN.out]
              · rw [if_neg e, if_neg e]))
            have HG5 := Lib.hid (grown_tr HG2.out (grown_tr HG.out hg5))
            clear hm5 hg5
            go_wp2
            go_ret
            exact ⟨HG5.out, .inr ⟨HS4.out, rfl, HM5.out⟩⟩
end Go.Proofs.Ytadlelcckalcoaa
