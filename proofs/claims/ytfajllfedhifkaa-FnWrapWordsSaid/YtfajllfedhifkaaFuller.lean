/- Contract: isFuller. -/
import Derived.Test.YtfajllfedhifkaaCost
import Derived.Test.YtfajllfedhifkaaPlainB
import Derived.Test.YtfajllfedhifkaaTexts
import Derived.Deep.QuietTactic
import Derived.BigQuiet
namespace Go.Proofs.Ytfajllfedhifkaa
open Go.RowKit
set_option maxRecDepth 100000

/-- both ways begin with the same lines -/
def FlInv (ga gb : pl.Gs) (k : Nat) : Prop := ∃ (p ra rb : pl.Gs), ga = p ++ ra ∧ gb = p ++ rb ∧ p.length = k ∧ pl.fuller ga gb = pl.fuller ra rb ∧ ra.flatten = rb.flatten
theorem flinv_start {ga gb : pl.Gs} (h : ga.flatten = gb.flatten) : FlInv ga gb 0 := ⟨[], ga, gb, rfl, rfl, rfl, rfl, h⟩
theorem flinv_end {ga gb : pl.Gs} (h : FlInv ga gb ga.length) : pl.fuller ga gb = false := by
  obtain ⟨p, ra, rb, h1, h2, h3, h4, h5⟩ := h
  have : ra = [] := by
    have := congrArg List.length h1
    rw [List.length_append] at this
    exact List.length_eq_zero_iff.1 (by omega)
  rw [h4, this]; simp [pl.fuller]
theorem flinv_at {ga gb : pl.Gs} {k : Nat} (hfa : ∀ g ∈ ga, g ≠ []) (h : FlInv ga gb k) (hk : k < ga.length) :
    ∃ (f xa ya za xb yb zb : Nat), (rowsG 0 ga)[k]? = some (f, ya, za) ∧ (rowsG 0 gb)[k]? = some (f, yb, zb) ∧ k < gb.length ∧ xa = 0 ∧ xb = 0 ∧
      ((ya = yb ∧ za = zb ∧ FlInv ga gb (k + 1)) ∨ (ya ≠ yb ∧ pl.fuller ga gb = decide (yb < ya))) := by
  obtain ⟨p, ra, rb, h1, h2, h3, h4, h5⟩ := h
  cases ra with
  | nil => rw [h1] at hk; simp at hk; omega
  | cons x ra' =>
    have hx : x ≠ [] := hfa x (by rw [h1]; simp)
    cases rb with
    | nil => simp at h5; exact absurd h5.1 hx
    | cons y rb' =>
      have ga_k : ga[k]? = some x := by rw [h1, List.getElem?_append_right (by omega), h3]; simp
      have gb_k : gb[k]? = some y := by rw [h2, List.getElem?_append_right (by omega), h3]; simp
      have ta : ga.take k = p := by rw [h1, List.take_append_of_le_length (by omega), ← h3, List.take_length]
      have tb : gb.take k = p := by rw [h2, List.take_append_of_le_length (by omega), ← h3, List.take_length]
      have ra := rowsG_get ga k x ga_k
      have rb := rowsG_get gb k y gb_k
      rw [ta] at ra
      rw [tb] at rb
      refine ⟨_, 0, _, _, 0, _, _, ra, rb, by rw [h2]; simp; omega, rfl, rfl, ?_⟩
      rw [List.flatten_cons, List.flatten_cons] at h5
      by_cases e : x.length = y.length
      · obtain ⟨e1, e2⟩ := List.append_inj h5 e
        subst e1
        refine .inl ⟨rfl, rfl, p ++ [x], ra', rb', by rw [h1]; simp, by rw [h2]; simp, by simp [h3], ?_, e2⟩
        rw [h4]; simp [pl.fuller]
      · refine .inr ⟨e, ?_⟩
        rw [h4]; simp [pl.fuller, e]

set_option maxHeartbeats 2000000 in
theorem isFuller_any (ga gb : pl.Gs) (u v : Value) (w : World) (hga : RRows w u (rowsG 0 ga)) (hgb : RRows w v (rowsG 0 gb)) (hfa : ∀ g ∈ ga, g ≠ []) (he : ga.flatten = gb.flatten) (hlen : ga.length ≤ 20) (hlenb : gb.length ≤ 20) (hne : ga ≠ []) (hbnd : ∀ (k f y z : Nat), (rowsG 0 ga)[k]? = some (f, y, z) ∨ (rowsG 0 gb)[k]? = some (f, y, z) → f ≤ 1000000 ∧ y ≤ 1000000 ∧ z ≤ 1000000) :
    Calls Try.prog 60 #[u, v] w fun e w' => e = .returned (.bool (pl.fuller ga gb)) ∧ Below w.heap.size w w' := by
  obtain ⟨n, hn⟩ : ∃ n, n = ga.length := ⟨_, rfl⟩
  obtain ⟨m, hm⟩ : ∃ m, m = gb.length := ⟨_, rfl⟩
  have hn0 : 0 < n := by rw [hn]; exact List.length_pos_iff.2 hne
  have hm0 : 0 < m := by
    rw [hm]
    refine List.length_pos_iff.2 (fun e => ?_)
    subst e
    cases ga with
    | nil => exact hne rfl
    | cons x r =>
      rw [List.flatten_cons] at he
      exact hfa x (by simp) (List.append_eq_nil_iff.1 he).1
  obtain ⟨b1, c1, rfl, hlt1, hc1, hcell1⟩ : ∃ b1 c1, u = .slice (some ⟨b1, 0, none⟩) n c1 ∧ b1 < w.heap.size ∧ n ≤ c1 ∧ Hid (RRows w u (rowsG 0 ga)) := by
    have hh := hga
    rcases hga with ⟨h1, c, h2⟩ | ⟨b, c, h2, hb, hc, _⟩
    · have := congrArg List.length h1
      rw [rowsG_len, List.length_nil] at this; omega
    · rw [rowsG_len] at h2 hc
      exact ⟨b, c, by rw [h2, hn], by first | exact hb | omega, by omega, Lib.hid hh⟩
  obtain ⟨b2, c2, rfl, hlt2, hc2, hcell2⟩ : ∃ b2 c2, v = .slice (some ⟨b2, 0, none⟩) m c2 ∧ b2 < w.heap.size ∧ m ≤ c2 ∧ Hid (RRows w v (rowsG 0 gb)) := by
    have hh := hgb
    rcases hgb with ⟨h1, c, h2⟩ | ⟨b, c, h2, hb, hc, _⟩
    · have := congrArg List.length h1
      rw [rowsG_len, List.length_nil] at this; omega
    · rw [rowsG_len] at h2 hc
      exact ⟨b, c, by rw [h2, hm], by first | exact hb | omega, by omega, Lib.hid hh⟩
  have HN := Lib.hid hn
  have HM := Lib.hid hm
  have HF := Lib.hid hfa
  have HBD := Lib.hid hbnd
  have H0 := Lib.hid (flinv_start he)
  rw [← hn] at hlen
  rw [← hm] at hlenb
  clear hga hgb he hn hm hne hfa hbnd
  go_enter Try.func60, Try.ntmps60
  go_wp2_with fail
  go_loopw [9] (fun iv wr => ∃ (k : Nat), k ≤ n ∧ iv = .int .i64 k ∧ Hid (FlInv ga gb k) ∧ Below w.heap.size w wr) (fun iv _ => n - (intOf iv).toNat)
  case atStart => exact ⟨0, Nat.zero_le _, rfl, H0, Below.refl _ _⟩
  case round =>
    obtain ⟨k, hk, rfl, hinv, hbel⟩ := hrel
    by_cases hlt : k < n
    · obtain ⟨f, _, ya, za, _, yb, zb, ha, hb, hkm, _, _, hcase⟩ := flinv_at HF.out hinv.out (by rw [← HN.out]; exact hlt)
      rw [← HM.out] at hkm
      have hba := HBD.out k f ya za (.inl ha)
      have hbb := HBD.out k f yb zb (.inr hb)
      obtain ⟨a1, a2, a3⟩ : wr.cell? ⟨b1, k * 3, none⟩ = some (.int .i64 f) ∧ wr.cell? ⟨b1, k * 3 + 1, none⟩ = some (.int .i64 ya) ∧ wr.cell? ⟨b1, k * 3 + 2, none⟩ = some (.int .i64 za) := by
        rcases hcell1.out.below (Nat.le_refl _) hbel with ⟨h1, _⟩ | ⟨b', c', h2, _, _, hc'⟩
        · exfalso
          rw [h1] at ha; simp at ha
        · simp only [Value.slice.injEq, Option.some.injEq, Addr.mk.injEq, and_true] at h2
          obtain ⟨rfl, _, _⟩ := h2
          exact hc' k _ ha
      obtain ⟨e1, e2, e3⟩ : wr.cell? ⟨b2, k * 3, none⟩ = some (.int .i64 f) ∧ wr.cell? ⟨b2, k * 3 + 1, none⟩ = some (.int .i64 yb) ∧ wr.cell? ⟨b2, k * 3 + 2, none⟩ = some (.int .i64 zb) := by
        rcases hcell2.out.below (Nat.le_refl _) hbel with ⟨h1, _⟩ | ⟨b', c', h2, _, _, hc'⟩
        · exfalso
          rw [h1] at hb; simp at hb
        · simp only [Value.slice.injEq, Option.some.injEq, Addr.mk.injEq, and_true] at h2
          obtain ⟨rfl, _, _⟩ := h2
          exact hc' k _ hb
      have hs := hbel.size
      have HB2 := Lib.hid (hbel.alloc hbel.size (.cells #[.int .i64 f, .int .i64 ya, .int .i64 za] 48))
      have d1 := cell_three_new wr (.int .i64 f) (.int .i64 ya) (.int .i64 za) 48 0 _ rfl
      have d2 := cell_three_new wr (.int .i64 f) (.int .i64 ya) (.int .i64 za) 48 1 _ rfl
      have d3 := cell_three_new wr (.int .i64 f) (.int .i64 ya) (.int .i64 za) 48 2 _ rfl
      simp only [Addr.add, Nat.zero_add, if_true] at d1
      rw [show ((⟨wr.heap.size, 0, none⟩ : Addr).add 1) = ⟨wr.heap.size, 1, none⟩ from rfl] at d2
      rw [show ((⟨wr.heap.size, 0, none⟩ : Addr).add 2) = ⟨wr.heap.size, 2, none⟩ from rfl] at d3
      have hbw := (Below.refl wr.heap.size wr).alloc (Nat.le_refl _) (.cells #[.int .i64 f, .int .i64 ya, .int .i64 za] 48)
      have g1 := (hbw.cell (p := ⟨b2, k * 3, none⟩) (by show b2 < _; omega)).trans e1
      have g2 := (hbw.cell (p := ⟨b2, k * 3 + 1, none⟩) (by show b2 < _; omega)).trans e2
      have g3 := (hbw.cell (p := ⟨b2, k * 3 + 2, none⟩) (by show b2 < _; omega)).trans e3
      clear hbw
      have hkI : (k : Int) < (m : Int) := by omega
      have HA := Lib.hid ha
      have HBB := Lib.hid hb
      clear ha hb
      rcases hcase with ⟨rfl, rfl, hnext⟩ | ⟨hne, hres⟩
      · have HX := Lib.hid hnext
        clear hnext
        go_wp2_with fail
        generalize wr.alloc _ = w2 at d1 d2 d3 g1 g2 g3 HB2 ⊢
        go_quiet (fail)
        go_wp2_with fail
        go_roundw
        case rel => exact ⟨k + 1, by omega, by go_num, HX, HB2.out.trans below_drewN⟩
        case measure => simp [intOf]; omega
      · have HX := Lib.hid hres
        clear hres
        go_wp2_with fail
        generalize wr.alloc _ = w2 at d1 d2 d3 g1 g2 g3 HB2 ⊢
        go_quiet (fail)
        go_wp2_with fail
        have HB3 : Hid (Below w.heap.size w (w2.drewN nq)) := Lib.hid (HB2.out.trans below_drewN)
        have d2' : (w2.drewN nq).cell? ⟨wr.heap.size, 1, none⟩ = some (.int .i64 ya) := d2
        have g2' : (w2.drewN nq).cell? ⟨b2, k * 3 + 1, none⟩ = some (.int .i64 yb) := g2
        clear d1 d2 d3 g1 g2 g3 HB2
        generalize w2.drewN nq = w3 at d2' g2' HB3 ⊢
        go_quiet (fail)
        go_wp2_with fail
        go_ret
        exact ⟨by rw [HX.out]; simp, HB3.out.trans below_drewN⟩
    · obtain rfl : k = n := by omega
      have he : Hid (pl.fuller ga gb = false) := Lib.hid (flinv_end (by rw [← HN.out]; exact hinv.out))
      go_wp2_with fail
      go_ret
      exact ⟨by rw [he.out]; rfl, hbel⟩

set_option maxHeartbeats 1000000 in
theorem isFuller_nil (gb : pl.Gs) (u v : Value) (w : World) (hga : RRows w u (rowsG 0 [])) :
    Calls Try.prog 60 #[u, v] w fun e w' => e = .returned (.bool (pl.fuller [] gb)) ∧ Below w.heap.size w w' := by
  have he : Hid (pl.fuller [] gb = false) := Lib.hid (by simp [pl.fuller])
  obtain ⟨a, c, rfl⟩ : ∃ a c, u = .slice a 0 c := by
    rcases hga with ⟨_, c, h2⟩ | ⟨b, c, h2, _⟩
    · exact ⟨_, c, h2⟩
    · exact ⟨_, c, h2⟩
  clear hga
  go_enter Try.func60, Try.ntmps60
  go_wp2_with fail
  refine wp_loop_rounds 1 ?_
  rw [rounds_succ]
  go_wp2_with fail
  go_ret
  exact ⟨by rw [he.out]; rfl, Below.refl _ _⟩

theorem rowsG_bnd {gs : pl.Gs} {l : List ByteArray} (h : gs.flatten = l) (h9 : l.length ≤ 9) (h12 : ∀ x ∈ l, x.size ≤ 12) {k f y z : Nat} (hr : (rowsG 0 gs)[k]? = some (f, y, z)) : f ≤ 9 ∧ y ≤ 9 ∧ z ≤ 117 := by
  have hk : k < gs.length := by
    rcases Nat.lt_or_ge k gs.length with h1 | h1
    · exact h1
    · rw [List.getElem?_eq_none (by rw [rowsG_len]; exact h1)] at hr; cases hr
  have hg : gs[k]? = some gs[k] := List.getElem?_eq_getElem hk
  have h2 := rowsG_get gs k _ hg
  rw [hr] at h2
  simp only [Option.some.injEq, Prod.mk.injEq] at h2
  obtain ⟨rfl, rfl, rfl⟩ := h2
  have hm : gs[k] ∈ gs := List.getElem_mem hk
  have h3 := pl.piece_G gs k _ hg
  have h4 := pl.szJ_bound gs[k] (fun x hx => h12 x (by rw [← h]; exact List.mem_flatten.2 ⟨_, hm, hx⟩))
  rw [h] at h3
  omega
theorem flat_len {gs : pl.Gs} {l : List ByteArray} (h : gs.flatten = l) (hf : ∀ g ∈ gs, g ≠ []) : gs.length ≤ l.length := by
  subst h
  induction gs with
  | nil => simp
  | cons a r ih =>
    have h1 := ih (fun g hg => hf g (List.mem_cons_of_mem _ hg))
    have h2 : 0 < a.length := List.length_pos_iff.2 (hf a (by simp))
    rw [List.flatten_cons, List.length_append, List.length_cons]; omega
theorem isFuller_all (ga gb : pl.Gs) (l : List ByteArray) (u v : Value) (w : World) (hga : RRows w u (rowsG 0 ga)) (hgb : RRows w v (rowsG 0 gb)) (hfa : ∀ g ∈ ga, g ≠ []) (hfb : ∀ g ∈ gb, g ≠ []) (ha : ga.flatten = l) (hb : gb.flatten = l) (h9 : l.length ≤ 9) (h12 : ∀ x ∈ l, x.size ≤ 12) :
    Calls Try.prog 60 #[u, v] w fun e w' => e = .returned (.bool (pl.fuller ga gb)) ∧ Below w.heap.size w w' := by
  by_cases e : ga = []
  · subst e; exact isFuller_nil gb u v w hga
  · refine isFuller_any ga gb u v w hga hgb hfa (ha.trans hb.symm) ?_ ?_ e ?_
    · have := flat_len ha hfa; omega
    · have := flat_len hb hfb; omega
    · rintro k f y z (h | h)
      · have := rowsG_bnd ha h9 h12 h; omega
      · have := rowsG_bnd hb h9 h12 h; omega
/-- the cost of a way's rows -/
theorem cost_rows (wd : Int) : ∀ (gs : pl.Gs) (f : Nat), pl.costTo wd (rz (rowsG f gs)) (gs.length - 1) = pl.costG wd gs := by
  have key : ∀ (gs : pl.Gs) (f : Nat) (z : Nat → Int), (∀ i g, gs[i]? = some g → z i = pl.szJ g) → pl.costTo wd z (gs.length - 1) = pl.costG wd gs := by
    intro gs
    induction gs with
    | nil => intro f z _; rfl
    | cons g r ih =>
      intro f z hz
      cases r with
      | nil => rfl
      | cons h t =>
        have h1 := ih 0 (fun i => z (i + 1)) (fun i g hg => hz (i + 1) g (by simpa using hg))
        rw [pl.costG_cons wd g (by simp), ← h1]
        have sh : ∀ k, pl.costTo wd z (k + 1) = (wd - z 0) * (wd - z 0) + pl.costTo wd (fun i => z (i + 1)) k := by
          intro k
          induction k with
          | zero => rw [pl.costTo_succ]; simp [pl.costTo]
          | succ k ihk => rw [pl.costTo_succ, ihk, pl.costTo_succ]; omega
        rw [show (g :: h :: t).length - 1 = (h :: t).length - 1 + 1 from by simp, sh, hz 0 g rfl]; rfl
  have hz : ∀ (gs : pl.Gs) (f i : Nat) (g : List ByteArray), gs[i]? = some g → rz (rowsG f gs) i = pl.szJ g := by
    intro gs
    induction gs with
    | nil => intro f i g h; simp at h
    | cons a r ih =>
      intro f i g h
      cases i with
      | zero => simp at h; subst h; rfl
      | succ i =>
        have := ih (f + a.length) i g (by simpa using h)
        unfold rz at this ⊢
        simpa [rowsG] using this
  exact fun gs f => key gs f _ (hz gs f)
theorem rz_fit {wd : Int} {gs : pl.Gs} (h : pl.fitG wd gs = true) (i : Nat) (hi : i < (rowsG 0 gs).length) : rz (rowsG 0 gs) i ≤ wd := by
  rw [rowsG_len] at hi
  have hg : gs[i]? = some gs[i] := List.getElem?_eq_getElem hi
  have h2 := rowsG_get gs i _ hg
  unfold rz
  rw [List.getD_eq_getElem?_getD, h2]
  have h3 := (List.all_eq_true.1 h) gs[i] (List.getElem_mem hi)
  unfold pl.fitL at h3
  rw [decide_eq_true_eq] at h3
  exact h3
end Go.Proofs.Ytfajllfedhifkaa
