/- Contracts: match and MatchForm of the model. -/
import Derived.Test.YtadlelcckalcoaaPlainMb
import Derived.Test.YtadlelcckalcoaaMatchI
import Derived.Test.YtadlelcckalcoaaFillC
import Derived.Test.YtadlelcckalcoaaParts2
import Derived.Deep.RegionLaw
import Derived.Maps.AppendAt
import Derived.Deep.AppendLies
import Derived.Deep.Cut
namespace Go.Proofs.Ytadlelcckalcoaa
open Go.RowKit
set_option maxRecDepth 100000
set_option linter.unusedVariables false

theorem step_append_at {P : Program} {w : World} {ops : Array Oper} {o : Oper} {a : Act} {K : Act → World → Prop} {Q : Exit → Act → World → Prop} {E : Prop} (hgd : o.guard = none) (s x : Operand) (t : TypeId)
    (ho : o.op = .call { callee := .builtin .append, args := #[s, x], argTypes := #[t, t] })
    (base : Nat) (e : TypeId) (i : TypeInfo) (z : Value) (size bytes : Nat) (ht : P.underlying t = some (.slice e)) (hi : P.info? e = some i) (hz : i.zero = some z)
    (hsize : i.size = size) (hby : i.bytes = bytes) (hzs : z.cells.size = size) (hsz : 0 < size)
    (v : Value) (n : Nat) (xs : List Value) (hs : a.eval s = v) (hown : w.ownsRow base e size v n xs)
    (ad : Addr) (m c : Nat) (news : List Value) (hx : a.eval x = .slice (some ad) m c) (hl : news.length = m * size) (hnews : ∀ j u, news[j]? = some u → w.cell? (ad.add j) = some u) (h1 : ∀ u ∈ news, u.oneCell' = true)
    (h63 : n + m ≤ maxLen) (hbytes : (n + m) * bytes ≤ 140737488355328) (hbase : base ≤ w.heap.size)
    (h : ∀ v' w', w'.ownsRow base e size v' (n + m) (xs ++ news) → w.grownBy w' v.ownBlock → (v' = .slice none 0 0 ↔ v = .slice none 0 0 ∧ m = 0) → K (a.put o.dst v') w') :
    if Region.wanted o (yielded ops a.tmps) = true then Oper.wp P o a w K Q else E := by
  have hw : Region.wanted o (yielded ops a.tmps) = true := by simp [Region.wanted, hgd]
  rw [if_pos hw]
  exact wp_append_own w s x t ho base e i z size bytes ht hi hz hsize hby hzs hsz v n xs hs hown ad m c news hx hl hnews h1 h63 hbytes hbase h

theorem second_heapM (w1 : World) (n : Nat) (h : w1.heap.size = n) (a b : Obj) : ((w1.alloc a).alloc b).heap[n]? = some a := by
  subst h
  have hb : Below (w1.alloc a).heap.size (w1.alloc a) ((w1.alloc a).alloc b) := (Below.refl _ _).alloc (Nat.le_refl _) b
  exact (hb.block w1.heap.size (by simp)).trans (by show (w1.heap.push a)[w1.heap.size]? = some a; simp)
/-- fills that were made, and lie in a block -/
def BFi (D : Nat) (w : World) (v : Value) (fl : List pl.Pc) : Prop := OFi D w v fl ∧ ∃ g cap, v = .slice (some ⟨g, 0, none⟩) fl.length cap
theorem BFi.below {D : Nat} {w w' : World} {v : Value} {fl : List pl.Pc} (h : BFi D w v fl) (hb : Below w.heap.size w w') : BFi D w' v fl := ⟨h.1.below hb, h.2⟩

def SMPost (r : List pl.Tok) (fl : List pl.Pc) (s : ByteArray) (D : Nat) (w : World) (e : Ending) (w' : World) : Prop :=
  Below w.heap.size w w' ∧ ((∃ v gs, pl.matchT r (pl.toFL fl) s.data.toList = some gs ∧ e = .returned (.tuple #[v, .bool true]) ∧ OFi D w' v (pl.toPc gs)) ∨ (∃ v gl, pl.matchT r (pl.toFL fl) s.data.toList = none ∧ e = .returned (.tuple #[v, .bool false]) ∧ OFi D w' v gl ∧ (gl = [] ∨ gl = fl)))

theorem oneC (fl : List pl.Pc) : ∀ u ∈ pairC (pcV fl), u.oneCell' = true := by
  induction fl with
  | nil => intro u hu; cases hu
  | cons p fl ih =>
    intro u hu
    rw [show pairC (pcV (p :: fl)) = .string p.1 :: .string p.2 :: pairC (pcV fl) from rfl] at hu
    rcases List.mem_cons.1 hu with rfl | hu
    · rfl
    · rcases List.mem_cons.1 hu with rfl | hu
      · rfl
      · exact ih u hu
/-- the tries so far -/
def RdTr (f : Nat → Option pl.FL) (m : Nat) (w : World) (kv : Value) (wr : World) : Prop :=
  ∃ k : Nat, k ≤ m ∧ kv = .int .i64 k ∧ Hid (pl.findK f 0 m = pl.findK f k (m - k)) ∧ Hid (Below w.heap.size w wr)
theorem nthT_size {T : List ByteArray} {i k : Nat} (h : ∀ t ∈ T, t.size ≤ k) (hi : i < T.length) : (nth T i).size ≤ k := by
  rw [nth_eq hi]; exact h _ (List.getElem_mem hi)

set_option maxHeartbeats 8000000 in
theorem smatch_any (D : Nat) (T N : List ByteArray) (tv nv : Value) (hTl : T.length = N.length + 1) (hN5 : N.length ≤ 5) (hts : ∀ t ∈ T, t.size ≤ 120) : ∀ (c i : Nat), c + i = N.length → ∀ (fl : List pl.Pc) (v : Value) (s : ByteArray) (w : World), RStrs w tv T → RStrs w nv N → BFi D w v fl → D ≤ w.heap.size → fl.length ≤ i → s.size ≤ 120 →
    Calls Try.prog 64 #[tv, nv, .int .i64 i, v, .string s] w (SMPost (pl.restT T N i) fl s D w) := by
  obtain ⟨i0, hi, hz0, hz1, hz2⟩ := info_parts infoFi2
  intro c
  induction c with
  | zero =>
    intro i hiN fl v s w hrt hrn hfl hD hfi hs
    obtain ⟨at0, ct, rfl⟩ := hrt.slice
    obtain ⟨an, cn, rfl⟩ := hrn.slice
    obtain ⟨nT, HNT⟩ : ∃ n, Hid (n = T.length) := ⟨_, Lib.hid rfl⟩
    obtain ⟨m, HM⟩ : ∃ n, Hid (n = N.length) := ⟨_, Lib.hid rfl⟩
    have hiT : i < nT := by have := HNT.out; omega
    obtain ⟨b, o, rfl, hc⟩ := RStrs.at (n := T.length) hrt rfl (Below.refl _ _) (k := i) (by omega)
    have HE := Lib.hid (pl.rest_end hTl (show i = N.length by omega))
    have htz := nthT_size hts (show i < T.length by omega)
    obtain rfl : i = m := by have := HM.out; omega
    obtain ⟨t, HT⟩ : ∃ t, Hid (nth T i = t) := ⟨_, Lib.hid rfl⟩
    rw [HT.out] at HE hc htz
    rw [← HNT.out, ← HM.out]
    have HFL := Lib.hid hfl
    clear hrt hrn hfl hiN
    have h63 : t.size ≤ 9223372036854775807 := by omega
    by_cases h1 : s.size < t.size
    · have h1i : (s.size : Int) < (t.size : Int) := by omega
      have h1d : decide ((s.size : Int) < (t.size : Int)) = true := decide_eq_true h1i
      have h1e : decide (s.size < t.size) = true := decide_eq_true h1
      have HN : Hid (pl.matchT (pl.restT T N i) (pl.toFL fl) s.data.toList = none) := Lib.hid (by
        rw [HE.out]; have := pl.run_no (.inr h1) [] (pl.toFL fl); rwa [List.append_nil] at this)
      clear h1
      go_enter Try.func64, Try.ntmps64
      go_wp2_with fail
      go_quiet (fail)
      go_wp2_with fail
      go_ret2
      exact ⟨below_drewN, .inr ⟨_, [], HN.out, rfl, OFi.nil _ _, .inl rfl⟩⟩
    · have h1i : ¬ (s.size : Int) < (t.size : Int) := by omega
      have h1j : (t.size : Int) ≤ (s.size : Int) := by omega
      have h1d : decide ((s.size : Int) < (t.size : Int)) = false := decide_eq_false h1i
      have h1e : decide (s.size < t.size) = false := decide_eq_false h1
      by_cases h2 : s.extract 0 t.size = t
      · have q1 : ((s.extract 0 t.size).toList == t.toList) = true := by rw [h2]; simp
        have HY : Hid (pl.matchT (pl.restT T N i) (pl.toFL fl) s.data.toList = pl.matchT [] (pl.toFL fl) (s.extract t.size s.size).data.toList) := Lib.hid (by
          rw [HE.out]; have := pl.run_yes h2 [] (pl.toFL fl); rwa [List.append_nil] at this)
        clear h2 h1
        go_enter Try.func64, Try.ntmps64
        go_wp2_with fail
        go_quiet (fail)
        go_upto_region 5 with (fail)
        obtain ⟨s2, HS2⟩ : ∃ x, Hid (s.extract t.size s.size = x) := ⟨_, Lib.hid rfl⟩
        rw [HS2.out] at HY
        rw [HS2.out]
        by_cases h0 : s2.size = 0
        · have he := pl.empty_of h0
          have HR : Hid (pl.matchT (pl.restT T N i) (pl.toFL fl) s.data.toList = some (pl.toFL fl)) := Lib.hid (by
            rw [HY.out, pl.matchT_end, if_pos (List.length_eq_zero_iff.1 (by rw [pl.len_eq]; exact h0))])
          clear h0
          go_wp2_with fail
          go_ret2
          exact ⟨below_drewN, .inl ⟨_, _, HR.out, rfl, by rw [pl.toPc_toFL]; exact (HFL.out.below below_drewN).1⟩⟩
        · have he := pl.nonempty_of h0
          have HR : Hid (pl.matchT (pl.restT T N i) (pl.toFL fl) s.data.toList = none) := Lib.hid (by
            rw [HY.out, pl.matchT_end, if_neg (fun e => h0 (by rw [← pl.len_eq, e]; rfl))])
          clear h0
          go_wp2_with fail
          go_ret2
          exact ⟨below_drewN, .inr ⟨_, fl, HR.out, rfl, (HFL.out.below below_drewN).1, .inr rfl⟩⟩
      · have q1 := toList_ne h2
        have HN : Hid (pl.matchT (pl.restT T N i) (pl.toFL fl) s.data.toList = none) := Lib.hid (by
          rw [HE.out]; have := pl.run_no (.inl h2) [] (pl.toFL fl); rwa [List.append_nil] at this)
        clear h2 h1
        go_enter Try.func64, Try.ntmps64
        go_wp2_with fail
        go_quiet (fail)
        go_wp2_with fail
        go_ret2
        exact ⟨below_drewN, .inr ⟨_, [], HN.out, rfl, OFi.nil _ _, .inl rfl⟩⟩
  | succ c ih =>
    intro i hiN fl v s w hrt hrn hfl hD hfi hs
    obtain ⟨at0, ct, rfl⟩ := hrt.slice
    obtain ⟨an, cn, rfl⟩ := hrn.slice
    obtain ⟨nT, HNT⟩ : ∃ n, Hid (n = T.length) := ⟨_, Lib.hid rfl⟩
    obtain ⟨m, HM⟩ : ∃ n, Hid (n = N.length) := ⟨_, Lib.hid rfl⟩
    have hiT : i < nT := by have := HNT.out; omega
    have him : i < m := by have := HM.out; omega
    have himn : ((i : Int) == (m : Int)) = false := beq_eq_false_iff_ne.2 (by omega)
    have hm5 : m ≤ 5 := by have := HM.out; omega
    have hw1 : IntKind.i64.wrap ((i : Int) + 1) = (i : Int) + 1 := by rw [IntKind.wrap_i64]; omega
    have IH := Lib.hid (ih (i + 1) (by omega))
    have HRT := Lib.hid hrt
    have HRN := Lib.hid hrn
    obtain ⟨b, o, hbo, hc⟩ := RStrs.at (n := T.length) hrt rfl (Below.refl _ _) (k := i) (by omega)
    obtain ⟨bn, on, hbn, hcn⟩ := RStrs.at (n := N.length) hrn rfl (Below.refl _ _) (k := i) (by omega)
    subst hbo; subst hbn
    have HE := Lib.hid (pl.rest_hole hTl (show i < N.length by omega))
    have htz := nthT_size hts (show i < T.length by omega)
    obtain ⟨t, HT⟩ : ∃ t, Hid (nth T i = t) := ⟨_, Lib.hid rfl⟩
    obtain ⟨nm, HNM⟩ : ∃ t, Hid (nth N i = t) := ⟨_, Lib.hid rfl⟩
    rw [HT.out] at HE hc htz
    rw [HNM.out] at HE hcn
    rw [← HNT.out] at HRT IH
    rw [← HM.out] at HRN IH
    rw [← HNT.out, ← HM.out]
    have HFL := Lib.hid hfl
    clear hrt hrn hfl ih
    have h63 : t.size ≤ 9223372036854775807 := by omega
    by_cases h1 : s.size < t.size
    · have h1i : (s.size : Int) < (t.size : Int) := by omega
      have h1d : decide ((s.size : Int) < (t.size : Int)) = true := decide_eq_true h1i
      have h1e : decide (s.size < t.size) = true := decide_eq_true h1
      have HN : Hid (pl.matchT (pl.restT T N i) (pl.toFL fl) s.data.toList = none) := Lib.hid (by
        rw [HE.out]; exact pl.run_no (.inr h1) _ _)
      clear h1
      go_enter Try.func64, Try.ntmps64
      go_wp2_with fail
      go_quiet (fail)
      go_wp2_with fail
      go_ret2
      exact ⟨below_drewN, .inr ⟨_, [], HN.out, rfl, OFi.nil _ _, .inl rfl⟩⟩
    · have h1i : ¬ (s.size : Int) < (t.size : Int) := by omega
      have h1j : (t.size : Int) ≤ (s.size : Int) := by omega
      have h1d : decide ((s.size : Int) < (t.size : Int)) = false := decide_eq_false h1i
      have h1e : decide (s.size < t.size) = false := decide_eq_false h1
      by_cases h2 : s.extract 0 t.size = t
      · have q1 : ((s.extract 0 t.size).toList == t.toList) = true := by rw [h2]; simp
        have HY : Hid (pl.matchT (pl.restT T N i) (pl.toFL fl) s.data.toList = pl.matchT (Sum.inr nm.data.toList :: pl.restT T N (i + 1)) (pl.toFL fl) (s.extract t.size s.size).data.toList) := Lib.hid (by
          rw [HE.out]; exact pl.run_yes h2 _ _)
        have hs2 : (s.extract t.size s.size).size ≤ 120 := by rw [ByteArray.size_extract]; omega
        clear h2 h1
        go_enter Try.func64, Try.ntmps64
        go_wp2_with fail
        go_quiet (fail)
        go_upto_region 5 with (fail)
        obtain ⟨s2, HS2⟩ : ∃ x, Hid (s.extract t.size s.size = x) := ⟨_, Lib.hid rfl⟩
        rw [HS2.out] at HY hs2
        rw [HS2.out]
        have HB0 : Hid (Below w.heap.size w (w.drewN nq)) := Lib.hid below_drewN
        obtain ⟨w0, HW1⟩ : ∃ x, Hid (w.drewN nq = x) := ⟨_, Lib.hid rfl⟩
        have hcn1 : (w.drewN nq).cell? ⟨bn, on + i, none⟩ = some (.string nm) := hcn
        rw [HW1.out] at HB0 hcn1
        rw [HW1.out]
        have HFL1 := Lib.hid (HFL.out.below HB0.out)
        rw [pl.hole_try] at HY
        go_wp2_with fail
        refine (svalueOf_any fl v nm _ HFL1.out.1.reads (by omega)).mono ?_
        rintro e w1 ⟨hv, rfl⟩
        have hcast : ((i + 1 : Nat) : Int) = (i : Int) + 1 := by omega
        rw [hcast] at IH
        clear hcast
        have hw1s : w.heap.size ≤ w1.heap.size := HB0.out.size
        rcases hv with ⟨x, hx, rfl⟩ | ⟨hx, rfl⟩
        · rw [hx, pl.len_eq] at HY
          obtain ⟨f, HF⟩ : ∃ f, Hid (pl.tryV (pl.restT T N (i + 1)) (pl.toFL fl) nm.data.toList (some x) s2.data.toList = f) := ⟨_, Lib.hid rfl⟩
          rw [HF.out] at HY
          clear hx
          go_wp2_with fail
          go_loopw [15] (fun kv wr => RdTr f (s2.size + 1) w1 kv wr) (fun kv _ => s2.size + 1 - (intOf kv).toNat)
          case atStart => exact ⟨0, Nat.zero_le _, rfl, Lib.hid (by rw [Nat.sub_zero]), Lib.hid (Below.refl _ _)⟩
          case round =>
            obtain ⟨k, hk, rfl, HK, HBC⟩ := hrel
            by_cases hlt : k < s2.size + 1
            · have hki : (k : Int) ≤ (s2.size : Int) := by omega
              have hwk : IntKind.i64.wrap ((k : Int) + 1) = (k : Int) + 1 := by rw [IntKind.wrap_i64]; omega
              have HMISS := Lib.hid (fun (h : f k = none) => (HK.out.trans (by rw [show s2.size + 1 - k = (s2.size + 1 - (k + 1)) + 1 by omega]; exact pl.findK_miss h) : pl.findK f 0 (s2.size + 1) = pl.findK f (k + 1) (s2.size + 1 - (k + 1))))
              have HHIT := Lib.hid (fun gs (h : f k = some gs) => (HK.out.trans (by rw [show s2.size + 1 - k = (s2.size + 1 - (k + 1)) + 1 by omega]; exact pl.findK_hit h) : pl.findK f 0 (s2.size + 1) = some gs))
              have HFL2 := Lib.hid (HFL1.out.below HBC.out)
              by_cases e : s2.extract 0 k = pl.bs x
              · have q1 : ((s2.extract 0 k).toList == (pl.bs x).toList) = true := by rw [e]; simp
                have HFK : Hid (f k = pl.matchT (pl.restT T N (i + 1)) (pl.toFL fl) (s2.extract k s2.size).data.toList) := Lib.hid (by
                  rw [← HF.out]
                  show (if s2.data.toList.take k = x then _ else _) = _
                  rw [if_pos (by rw [← pl.ext_takeM, e]; rfl), pl.ext_dropM])
                clear e
                go_wp2_with fail
                refine (IH.out fl _ (s2.extract k s2.size) _ (HRT.out.below (Nat.le_refl _) (HB0.out.trans (HBC.out.mono HB0.out.size))) (HRN.out.below (Nat.le_refl _) (HB0.out.trans (HBC.out.mono HB0.out.size))) HFL2.out (by have := (HB0.out.trans (HBC.out.mono HB0.out.size)).size; omega) (by omega) (by rw [ByteArray.size_extract]; omega)).mono ?_
                rintro e w3 ⟨hb3, hres⟩
                have HB3 : Hid (Below w1.heap.size w1 w3) := Lib.hid (HBC.out.trans (hb3.mono HBC.out.size))
                clear hb3
                rcases hres with ⟨v', gs, hg, rfl, hq⟩ | ⟨v', gl, hg, rfl, hq, _⟩
                · have HGO := Lib.hid (HY.out.trans (HHIT.out gs (HFK.out.trans hg)))
                  have HQ := Lib.hid hq
                  clear hg hq
                  go_wp2_with fail
                  go_ret2
                  exact ⟨HB0.out.trans (HB3.out.mono HB0.out.size), .inl ⟨_, gs, HGO.out, rfl, HQ.out⟩⟩
                · have HGO := Lib.hid (HMISS.out (HFK.out.trans hg))
                  clear hg hq
                  go_wp2_with fail
                  go_roundw
                  case rel => exact ⟨k + 1, by omega, by go_num, HGO, HB3⟩
                  case measure => simp [intOf]; omega
              · have q1 := toList_ne e
                have HFK := Lib.hid (HMISS.out (by
                  rw [← HF.out]
                  show (if s2.data.toList.take k = x then _ else _) = _
                  rw [if_neg (fun h => e (by rw [← pl.bs_self (s2.extract 0 k), pl.ext_takeM, h]))]))
                clear e
                go_wp2_with fail
                go_roundw
                case rel => exact ⟨k + 1, by omega, by go_num, HFK, HBC⟩
                case measure => simp [intOf]; omega
            · obtain rfl : k = s2.size + 1 := by omega
              have hki : ¬ ((s2.size : Int) + 1) ≤ (s2.size : Int) := by omega
              have HGO : Hid (pl.matchT (pl.restT T N i) (pl.toFL fl) s.data.toList = none) := Lib.hid (by
                rw [HY.out, HK.out, Nat.sub_self]; rfl)
              go_wp2_with fail
              go_ret2
              exact ⟨HB0.out.trans (HBC.out.mono HB0.out.size), .inr ⟨_, [], HGO.out, rfl, OFi.nil _ _, .inl rfl⟩⟩
        · rw [hx, pl.len_eq] at HY
          obtain ⟨f, HF⟩ : ∃ f, Hid (pl.tryV (pl.restT T N (i + 1)) (pl.toFL fl) nm.data.toList none s2.data.toList = f) := ⟨_, Lib.hid rfl⟩
          rw [HF.out] at HY
          clear hx
          obtain ⟨g, cap, hgv⟩ := HFL1.out.2
          subst hgv
          obtain ⟨nf, HNF⟩ : ∃ n, Hid (n = fl.length) := ⟨_, Lib.hid rfl⟩
          have hnf5 : nf ≤ 5 := by have := HNF.out; omega
          rw [← HNF.out]
          have hgw := (World.ownsRow.lt HFL1.out.1 g rfl)
          have hbn := World.block_lt_of_cell? _ _ hcn1
          have hbnw : bn < w1.heap.size := hbn
          clear hbn
          go_wp2_with fail
          go_loopw [15] (fun kv wr => RdTr f (s2.size + 1) w1 kv wr) (fun kv _ => s2.size + 1 - (intOf kv).toNat)
          case atStart => exact ⟨0, Nat.zero_le _, rfl, Lib.hid (by rw [Nat.sub_zero]), Lib.hid (Below.refl _ _)⟩
          case round =>
            obtain ⟨k, hk, rfl, HK, HBC⟩ := hrel
            by_cases hlt : k < s2.size + 1
            · have hki : (k : Int) ≤ (s2.size : Int) := by omega
              have hwk : IntKind.i64.wrap ((k : Int) + 1) = (k : Int) + 1 := by rw [IntKind.wrap_i64]; omega
              have HMISS := Lib.hid (fun (h : f k = none) => (HK.out.trans (by rw [show s2.size + 1 - k = (s2.size + 1 - (k + 1)) + 1 by omega]; exact pl.findK_miss h) : pl.findK f 0 (s2.size + 1) = pl.findK f (k + 1) (s2.size + 1 - (k + 1))))
              have HHIT := Lib.hid (fun gs (h : f k = some gs) => (HK.out.trans (by rw [show s2.size + 1 - k = (s2.size + 1 - (k + 1)) + 1 by omega]; exact pl.findK_hit h) : pl.findK f 0 (s2.size + 1) = some gs))
              have HFL2 := Lib.hid (HFL1.out.below HBC.out)
              obtain ⟨y, HYY⟩ : ∃ y, Hid (s2.extract 0 k = y) := ⟨_, Lib.hid rfl⟩
              have HFK : Hid (f k = pl.matchT (pl.restT T N (i + 1)) (pl.toFL (fl ++ [(nm, y)])) (s2.extract k s2.size).data.toList) := Lib.hid (by
                rw [← HF.out, ← HYY.out]
                show pl.matchT _ (pl.toFL fl ++ [(nm.data.toList, s2.data.toList.take k)]) _ = _
                rw [← pl.ext_takeM, ← pl.ext_dropM]
                unfold pl.toFL
                rw [List.map_append]; rfl)
              have hcr : wr.cell? ⟨bn, on + i, none⟩ = some (.string nm) := (HBC.out.cell (p := ⟨bn, on + i, none⟩) hbnw).trans hcn1
              have hbr : bn < wr.heap.size := Nat.lt_of_lt_of_le hbnw HBC.out.size
              have hgr : g < wr.heap.size := Nat.lt_of_lt_of_le hgw.2 HBC.out.size
              have hDr : D ≤ wr.heap.size := by have := HBC.out.size; omega
              go_upto_region 14 with (fail)
              have vA : Below wr.heap.size wr (wr.alloc (.cells #[] 87)) := (Below.refl _ _).alloc (Nat.le_refl _) _
              have vP : Below wr.heap.size wr (wr.alloc (.cells #[.string nm, .string (s2.extract 0 k)] 87)) := (Below.refl _ _).alloc (Nat.le_refl _) _
              have vB : Below wr.heap.size wr ((wr.alloc (.cells #[.string nm, .string (s2.extract 0 k)] 87)).alloc (.cells #[] 87)) := vP.alloc vP.size _
              have vC : Below wr.heap.size wr ((wr.alloc (.cells #[] 87)).alloc (.cells #[.string nm, .string (s2.extract 0 k)] 87)) := vA.alloc vA.size _
              have hbA := vA.drew
              have hbB := vB.drew
              have hbC := vC.drew
              have szP : (wr.alloc (.cells #[.string nm, .string (s2.extract 0 k)] 87)).heap.size = wr.heap.size + 1 := by simp
              have oA' : (wr.alloc (.cells #[] 87)).ownsRow wr.heap.size 87 2 (.slice (some ⟨wr.heap.size, 0, none⟩) 0 0) 0 [] := World.ownsRow_made _ _ _ (Nat.le_refl _) (by unfold maxLen; omega) rfl
              have oB' : ((wr.alloc (.cells #[.string nm, .string (s2.extract 0 k)] 87)).alloc (.cells #[] 87)).ownsRow wr.heap.size 87 2 (.slice (some ⟨(wr.alloc (.cells #[.string nm, .string (s2.extract 0 k)] 87)).heap.size, 0, none⟩) 0 0) 0 [] := World.ownsRow_made _ _ _ (by rw [szP]; omega) (by unfold maxLen; omega) rfl
              rw [szP] at oB'
              have oC' : ((wr.alloc (.cells #[] 87)).alloc (.cells #[.string nm, .string (s2.extract 0 k)] 87)).ownsRow wr.heap.size 87 2 (.slice (some ⟨wr.heap.size, 0, none⟩) 0 0) 0 [] := World.ownsRow.alloc oA' _
              have oA : (wr.alloc (.cells #[] 87)).drew.ownsRow wr.heap.size 87 2 (.slice (some ⟨wr.heap.size, 0, none⟩) 0 0) 0 [] := oA'
              have oB : ((wr.alloc (.cells #[.string nm, .string (s2.extract 0 k)] 87)).alloc (.cells #[] 87)).drew.ownsRow wr.heap.size 87 2 (.slice (some ⟨wr.heap.size + 1, 0, none⟩) 0 0) 0 [] := oB'
              have oC : ((wr.alloc (.cells #[] 87)).alloc (.cells #[.string nm, .string (s2.extract 0 k)] 87)).drew.ownsRow wr.heap.size 87 2 (.slice (some ⟨wr.heap.size, 0, none⟩) 0 0) 0 [] := oC'
              have nA := World.ownsRow.cells (g := g) (HFL2.out.1.below hbA) rfl
              have nB := World.ownsRow.cells (g := g) (HFL2.out.1.below hbB) rfl
              have nC := World.ownsRow.cells (g := g) (HFL2.out.1.below hbC) rfl
              have HOA := Lib.hid oA
              have HOB := Lib.hid oB
              have HOC := Lib.hid oC
              have HNA := Lib.hid nA
              have HNB := Lib.hid nB
              have HNC := Lib.hid nC
              have HWA := Lib.hid hbA
              have HWB := Lib.hid hbB
              have HWC := Lib.hid hbC
              have HL1 : Hid ((pairC (pcV fl)).length = nf * 2) := Lib.hid (by rw [pairC_len, pcV_len, ← HNF.out])
              have H1C : Hid (∀ u ∈ pairC (pcV fl), u.oneCell' = true) := Lib.hid (oneC fl)
              clear oA oB oC oA' oB' oC' nA nB nC hbA hbB hbC vA vB vC vP szP
              have hpB : ((wr.alloc (.cells #[.string nm, .string (s2.extract 0 k)] 87)).alloc (.cells #[] 87)).drew.heap[wr.heap.size]? = some (.cells #[.string nm, .string (s2.extract 0 k)] 87) := second_heapM wr _ rfl _ _
              have hpC : ((wr.alloc (.cells #[] 87)).alloc (.cells #[.string nm, .string (s2.extract 0 k)] 87)).drew.heap[wr.heap.size + 1]? = some (.cells #[.string nm, .string (s2.extract 0 k)] 87) := by
                have := heap_alloc_new (wr.alloc (.cells #[] 87)) (.cells #[.string nm, .string (s2.extract 0 k)] 87)
                rw [show (wr.alloc (.cells #[] 87)).heap.size = wr.heap.size + 1 by simp] at this
                exact this
              have HPB := Lib.hid hpB
              have HPC := Lib.hid hpC
              clear hpB hpC
              go_region_law (first
                | (refine step_append_at rfl (.tmp 74) (.tmp 75) 38 rfl wr.heap.size 87 i0 (.agg #[.string ByteArray.empty, .string ByteArray.empty]) 2 32 Try.underlying38 hi hz0 hz1 hz2 rfl (by decide) _ 0 [] rfl (by first | exact HOA.out | exact HOB.out | exact HOC.out) ⟨g, 0, none⟩ nf cap (pairC (pcV fl)) rfl HL1.out (by first | exact HNA.out | exact HNB.out | exact HNC.out) H1C.out (by unfold maxLen; omega) (by omega) (by first | exact HWA.out.size | exact HWB.out.size | exact HWC.out.size) ?_; intro v1 x1 hown1 hgrow1 _; simp only [Nat.zero_add, List.nil_append] at hown1; have HO1 := Lib.hid hown1; have HX1 : Hid (Below wr.heap.size wr x1) := Lib.hid (by first | exact HWA.out.grown hgrow1 HWA.out.size (fun q hq => by have hq' : some (wr.heap.size) = some q := hq; injection hq' with hq'; omega) | exact HWB.out.grown hgrow1 HWB.out.size (fun q hq => by have hq' : some (wr.heap.size + 1) = some q := hq; injection hq' with hq'; omega) | exact HWC.out.grown hgrow1 HWC.out.size (fun q hq => by have hq' : some (wr.heap.size) = some q := hq; injection hq' with hq'; omega)); have hcn2 : x1.cell? ⟨bn, on + i, none⟩ = some (.string nm) := (HX1.out.cell (p := ⟨bn, on + i, none⟩) hbr).trans hcr; first | (have HPX : Hid (x1.heap[wr.heap.size]? = some (.cells #[.string nm, .string (s2.extract 0 k)] 87)) := Lib.hid ((hgrow1.block wr.heap.size (by simp; try omega) (fun hq => by have hq' : some wr.heap.size = some (wr.heap.size + 1) := hq; injection hq' with hq'; omega)).trans HPB.out)) | (have HPX : Hid (x1.heap[wr.heap.size + 1]? = some (.cells #[.string nm, .string (s2.extract 0 k)] 87)) := Lib.hid ((hgrow1.block (wr.heap.size + 1) (by simp; try omega) (fun hq => by have hq' : some (wr.heap.size + 1) = some wr.heap.size := hq; injection hq' with hq'; omega)).trans HPC.out)) | skip; clear hown1 hgrow1)
                | (refine step_append_at rfl (.tmp 76) (.tmp 85) 38 rfl wr.heap.size 87 i0 (.agg #[.string ByteArray.empty, .string ByteArray.empty]) 2 32 Try.underlying38 hi hz0 hz1 hz2 rfl (by decide) _ nf (pairC (pcV fl)) rfl (by first | exact HO1.out | exact World.ownsRow.alloc HO1.out _) ⟨_, 0, none⟩ 1 1 [.string nm, .string (s2.extract 0 k)] rfl rfl (by first | exact World.news_of_block HPX.out | exact cell_two_new x1 _ _ _) (by intro u hu; simp at hu; rcases hu with h | h <;> subst h <;> rfl) (by unfold maxLen; omega) (by omega) (by first | exact HX1.out.size | exact (HX1.out.alloc HX1.out.size _).size) ?_; intro v2 x2 hown2 hgrow2 _; have HX2 : Hid (Below wr.heap.size wr x2) := Lib.hid (by first | exact HX1.out.grown hgrow2 HX1.out.size (fun q hq => (World.ownsRow.lt HO1.out q hq).1) | exact (HX1.out.alloc HX1.out.size _).grown hgrow2 (HX1.out.alloc HX1.out.size _).size (fun q hq => (World.ownsRow.lt HO1.out q hq).1)); have HF2 : Hid (OFi wr.heap.size x2 v2 (fl ++ [(nm, s2.extract 0 k)])) := Lib.hid (OFi.push (by rw [← HNF.out]; exact hown2)); have HS2' : Hid (∃ g2 c2, v2 = .slice (some ⟨g2, 0, none⟩) (nf + 1) c2) := Lib.hid (by obtain ⟨g2, c2, h, _⟩ := World.ownsRow.form hown2 (by omega); exact ⟨g2, c2, h⟩); clear hown2 hgrow2))
              all_goals
                rw [HYY.out] at HF2
                obtain ⟨g2, c2, hv2⟩ := HS2'.out
                subst hv2
                have HBX := Lib.hid (HBC.out.trans (HX2.out.mono HBC.out.size))
                have HBF : Hid (BFi D x2 (.slice (some ⟨g2, 0, none⟩) (nf + 1) c2) (fl ++ [(nm, y)])) := Lib.hid ⟨HF2.out.mono hDr, g2, c2, by rw [List.length_append, ← HNF.out]; rfl⟩
                have hll : (fl ++ [(nm, y)]).length ≤ i + 1 := by rw [List.length_append, ← HNF.out]; have := HNF.out; simp; omega
                clear HX2 HF2 HS2'
                go_wp2_with fail
                refine (IH.out (fl ++ [(nm, y)]) _ (s2.extract k s2.size) _ (HRT.out.below (Nat.le_refl _) (HB0.out.trans (HBX.out.mono HB0.out.size))) (HRN.out.below (Nat.le_refl _) (HB0.out.trans (HBX.out.mono HB0.out.size))) HBF.out (by have := (HB0.out.trans (HBX.out.mono HB0.out.size)).size; omega) hll (by rw [ByteArray.size_extract]; omega)).mono ?_
                rintro e w3 ⟨hb3, hres⟩
                have HB3 : Hid (Below w1.heap.size w1 w3) := Lib.hid (HBX.out.trans (hb3.mono HBX.out.size))
                clear hb3
                rcases hres with ⟨v', gs, hg, rfl, hq⟩ | ⟨v', gl, hg, rfl, hq, _⟩
                · have HGO := Lib.hid (HY.out.trans (HHIT.out gs (HFK.out.trans hg)))
                  have HQ := Lib.hid hq
                  clear hg hq
                  go_wp2_with fail
                  go_ret2
                  exact ⟨HB0.out.trans (HB3.out.mono HB0.out.size), .inl ⟨_, gs, HGO.out, rfl, HQ.out⟩⟩
                · have HGO := Lib.hid (HMISS.out (HFK.out.trans hg))
                  clear hg hq
                  go_wp2_with fail
                  go_roundw
                  case rel => exact ⟨k + 1, by omega, by go_num, HGO, HB3⟩
                  case measure => simp [intOf]; omega
            · obtain rfl : k = s2.size + 1 := by omega
              have hki : ¬ ((s2.size : Int) + 1) ≤ (s2.size : Int) := by omega
              have HGO : Hid (pl.matchT (pl.restT T N i) (pl.toFL fl) s.data.toList = none) := Lib.hid (by
                rw [HY.out, HK.out, Nat.sub_self]; rfl)
              go_wp2_with fail
              go_ret2
              exact ⟨HB0.out.trans (HBC.out.mono HB0.out.size), .inr ⟨_, [], HGO.out, rfl, OFi.nil _ _, .inl rfl⟩⟩
      · have q1 := toList_ne h2
        have HN : Hid (pl.matchT (pl.restT T N i) (pl.toFL fl) s.data.toList = none) := Lib.hid (by
          rw [HE.out]; exact pl.run_no (.inl h2) _ _)
        clear h2 h1
        go_enter Try.func64, Try.ntmps64
        go_wp2_with fail
        go_quiet (fail)
        go_wp2_with fail
        go_ret2
        exact ⟨below_drewN, .inr ⟨_, [], HN.out, rfl, OFi.nil _ _, .inl rfl⟩⟩
end Go.Proofs.Ytadlelcckalcoaa
