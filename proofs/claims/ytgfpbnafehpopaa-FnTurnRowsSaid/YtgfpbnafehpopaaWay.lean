/- Rows of words as the package keeps them: slices of rows that a call made, and a row with one word more. -/
import Derived.Test.YtgfpbnafehpopaaStrs
import Derived.Test.YtgfpbnafehpopaaPlainG
import Derived.Lib.Hide
import Derived.Outline
import Derived.WalkLawsBesides
import Derived.Deep.AppendLies
namespace Go.Proofs.Ytgfpbnafehpopaa
open Go.RowKit
set_option maxRecDepth 100000

theorem infoRow : (Try.prog.info? 110).map (fun i => (i.zero, i.size, i.bytes)) = some (some (.agg #[.int .i64 0, .int .i64 0, .int .i64 0]), 3, 24) := by kernel_rfl

abbrev Tr := Nat × Nat × Nat
def rowC (r : Tr) : List Value := [.int .i64 r.1, .int .i64 r.2.1, .int .i64 r.2.2]
def rowsC : List Tr → List Value
  | [] => []
  | r :: rs => rowC r ++ rowsC rs
theorem rowsC_len : ∀ rs, (rowsC rs).length = rs.length * 3
  | [] => rfl
  | r :: rs => by
    unfold rowsC
    rw [List.length_append, rowsC_len rs, List.length_cons]
    show 3 + _ = _
    omega
theorem rowsC_app : ∀ a b, rowsC (a ++ b) = rowsC a ++ rowsC b
  | [], b => rfl
  | r :: a, b => by
    show rowC r ++ rowsC (a ++ b) = rowC r ++ rowsC a ++ rowsC b
    rw [rowsC_app a b, List.append_assoc]
theorem rowsC_get : ∀ (rs : List Tr) (i j : Nat) (r : Tr), rs[i]? = some r → j < 3 → (rowsC rs)[i * 3 + j]? = (rowC r)[j]?
  | [], i, j, r, h, _ => by simp at h
  | a :: rs, 0, j, r, h, hj => by
    simp at h; subst h
    unfold rowsC
    rw [show 0 * 3 + j = j from by omega, List.getElem?_append_left (by show j < 3; exact hj)]
  | a :: rs, i + 1, j, r, h, hj => by
    have := rowsC_get rs i j r (by simpa using h) hj
    unfold rowsC
    rw [List.getElem?_append_right (by show 3 ≤ _; omega)]
    rw [← this]
    congr 1
    show (i + 1) * 3 + j - 3 = _
    omega
theorem rowsC_last (d : List Tr) (r r' : Tr) : (((rowsC (d ++ [r])).set (d.length * 3) (.int .i64 r'.1)).set (d.length * 3 + 1) (.int .i64 r'.2.1)).set (d.length * 3 + 2) (.int .i64 r'.2.2) = rowsC (d ++ [r']) := by
  rw [rowsC_app, rowsC_app]
  have hl := rowsC_len d
  rw [← hl]
  simp [rowsC, rowC]

/-- v is a slice of rows of the call's own, made in blocks from B on -/
def ORows (B : Nat) (w : World) (v : Value) (rs : List Tr) : Prop := w.ownsRow B 110 3 v rs.length (rowsC rs)
theorem ORows.nil (B : Nat) (w : World) : ORows B w (.slice none 0 0) [] := World.ownsRow_nil _ _ _ _
theorem ORows.alloc {B : Nat} {w : World} {v : Value} {l : List Tr} (h : ORows B w v l) (o : Obj) : ORows B (w.alloc o) v l := World.ownsRow.alloc h o
theorem ORows.below {B C : Nat} {w w' : World} {v : Value} {l : List Tr} (h : ORows B w v l) (hC : w.heap.size ≤ C) (hb : Below C w w') : ORows B w' v l := by
  refine ⟨h.1, ?_⟩
  rcases h.2 with hn | ⟨g, cap, cur, rfl, hB, hg, rest⟩
  · exact .inl hn
  · refine .inr ⟨g, cap, cur, rfl, hB, ?_, rest⟩
    rw [hb.block g (by have := (Array.getElem?_eq_some_iff.1 hg).1; omega)]
    exact hg
theorem ORows.mono {B B' : Nat} {w : World} {v : Value} {l : List Tr} (h : ORows B w v l) (hB : B' ≤ B) : ORows B' w v l := by
  refine ⟨h.1, ?_⟩
  rcases h.2 with hn | ⟨g, cap, cur, rfl, hg, rest⟩
  · exact .inl hn
  · exact .inr ⟨g, cap, cur, rfl, by omega, rest⟩

/-- v is a slice of rows that reads as rs -/
def RRows (w : World) (v : Value) (rs : List Tr) : Prop :=
  (rs = [] ∧ ∃ cap, v = .slice none 0 cap) ∨ ∃ b cap, v = .slice (some ⟨b, 0, none⟩) rs.length cap ∧ b < w.heap.size ∧ rs.length ≤ cap ∧ ∀ (i : Nat) (r : Tr), rs[i]? = some r →
    w.cell? ⟨b, i * 3, none⟩ = some (.int .i64 r.1) ∧ w.cell? ⟨b, i * 3 + 1, none⟩ = some (.int .i64 r.2.1) ∧ w.cell? ⟨b, i * 3 + 2, none⟩ = some (.int .i64 r.2.2)
theorem own_rows {B g n cap : Nat} {w : World} {rs : List Tr} (h : w.ownsRow B 110 3 (.slice (some ⟨g, 0, none⟩) n cap) n (rowsC rs)) (hn : n = rs.length) (i : Nat) (r : Tr) (hi : rs[i]? = some r) :
    w.cell? ⟨g, i * 3, none⟩ = some (.int .i64 r.1) ∧ w.cell? ⟨g, i * 3 + 1, none⟩ = some (.int .i64 r.2.1) ∧ w.cell? ⟨g, i * 3 + 2, none⟩ = some (.int .i64 r.2.2) := by
  have hlt : i < rs.length := by
    rcases Nat.lt_or_ge i rs.length with h1 | h1
    · exact h1
    · rw [List.getElem?_eq_none h1] at hi; cases hi
  refine ⟨?_, ?_, ?_⟩
  · rw [World.ownsRow.cellAt h _ (by omega), ← Nat.add_zero (i * 3), rowsC_get rs i 0 r hi (by omega)]; rfl
  · rw [World.ownsRow.cellAt h _ (by omega), rowsC_get rs i 1 r hi (by omega)]; rfl
  · rw [World.ownsRow.cellAt h _ (by omega), rowsC_get rs i 2 r hi (by omega)]; rfl
theorem ORows.reads {B : Nat} {w : World} {v : Value} {rs : List Tr} (h : ORows B w v rs) : RRows w v rs := by
  have hw := h
  rcases h.2 with ⟨hv, hn⟩ | ⟨g, cap, cur, hv, hB, hg, hle, hm, hs, htake⟩
  · exact .inl ⟨List.length_eq_zero_iff.1 hn, 0, hv⟩
  · subst hv
    exact .inr ⟨g, cap, rfl, (Array.getElem?_eq_some_iff.1 hg).1, hle, fun i r hi => own_rows hw rfl i r hi⟩
theorem RRows.below {C : Nat} {w w' : World} {v : Value} {rs : List Tr} (h : RRows w v rs) (hC : w.heap.size ≤ C) (hb : Below C w w') : RRows w' v rs := by
  rcases h with h | ⟨b, cap, hv, hlt, hle, hc⟩
  · exact .inl h
  · refine .inr ⟨b, cap, hv, Nat.lt_of_lt_of_le hlt hb.size, hle, fun i r hi => ?_⟩
    obtain ⟨h1, h2, h3⟩ := hc i r hi
    exact ⟨by rw [hb.cell (by show b < C; omega)]; exact h1, by rw [hb.cell (by show b < C; omega)]; exact h2, by rw [hb.cell (by show b < C; omega)]; exact h3⟩

set_option maxHeartbeats 1000000 in
theorem rowWith_more (f n s : Nat) (x : ByteArray) (w : World) (h0 : 0 < n) (hn : n ≤ 1000000) (hs : s ≤ 1000000) (hx : x.size ≤ 1000000) :
    Calls Try.prog 103 #[.agg #[.int .i64 f, .int .i64 n, .int .i64 s], .string x] w fun e w' => e = .returned (.agg #[.int .i64 f, .int .i64 (n + 1 : Nat), .int .i64 (s + 1 + x.size : Nat)]) ∧ Below w.heap.size w w' := by
  go_enter Try.func103, Try.ntmps103
  go_wp2_with fail
  refine bodyPost_ret (v := .agg #[.int .i64 f, .int .i64 (n + 1 : Nat), .int .i64 (s + 1 + x.size : Nat)]) (by simp [results, Try.results103, go_sem]) rfl ⟨rfl, ?_⟩
  exact ((Below.refl _ _).alloc (Nat.le_refl _) _).alloc (by simp) _

set_option maxHeartbeats 1000000 in
theorem rowWith_first (f : Nat) (x : ByteArray) (w : World) (hx : x.size ≤ 1000000) :
    Calls Try.prog 103 #[.agg #[.int .i64 f, .int .i64 0, .int .i64 0], .string x] w fun e w' => e = .returned (.agg #[.int .i64 f, .int .i64 1, .int .i64 x.size]) ∧ Below w.heap.size w w' := by
  go_enter Try.func103, Try.ntmps103
  go_wp2_with fail
  refine bodyPost_ret (v := .agg #[.int .i64 f, .int .i64 1, .int .i64 x.size]) (by simp [results, Try.results103, go_sem]) rfl ⟨rfl, ?_⟩
  exact ((Below.refl _ _).alloc (Nat.le_refl _) _).alloc (by simp) _

theorem rows_stored {B g n cap m : Nat} {w : World} {d : List Tr} {r : Tr} (h : w.ownsRow B 110 3 (.slice (some ⟨g, 0, none⟩) n cap) n (rowsC (d ++ [r]))) (hd : d.length = m) (q : Tr) :
    w.cell? ⟨g, m * 3, none⟩ = some (.int .i64 r.1) ∧ w.frozen? ⟨g, m * 3, none⟩ = false ∧
    (w.setCell ⟨g, m * 3, none⟩ (.int .i64 q.1)).cell? ⟨g, m * 3 + 1, none⟩ = some (.int .i64 r.2.1) ∧ (w.setCell ⟨g, m * 3, none⟩ (.int .i64 q.1)).frozen? ⟨g, m * 3 + 1, none⟩ = false ∧
    ((w.setCell ⟨g, m * 3, none⟩ (.int .i64 q.1)).setCell ⟨g, m * 3 + 1, none⟩ (.int .i64 q.2.1)).cell? ⟨g, m * 3 + 2, none⟩ = some (.int .i64 r.2.2) ∧
    ((w.setCell ⟨g, m * 3, none⟩ (.int .i64 q.1)).setCell ⟨g, m * 3 + 1, none⟩ (.int .i64 q.2.1)).frozen? ⟨g, m * 3 + 2, none⟩ = false ∧
    (((w.setCell ⟨g, m * 3, none⟩ (.int .i64 q.1)).setCell ⟨g, m * 3 + 1, none⟩ (.int .i64 q.2.1)).setCell ⟨g, m * 3 + 2, none⟩ (.int .i64 q.2.2)).ownsRow B 110 3 (.slice (some ⟨g, 0, none⟩) n cap) n (rowsC (d ++ [q])) ∧
    (B ≤ g → Below B w (((w.setCell ⟨g, m * 3, none⟩ (.int .i64 q.1)).setCell ⟨g, m * 3 + 1, none⟩ (.int .i64 q.2.1)).setCell ⟨g, m * 3 + 2, none⟩ (.int .i64 q.2.2))) := by
  have hn : (rowsC (d ++ [r])).length = n * 3 := h.1
  have hn2 := rowsC_len (d ++ [r])
  rw [List.length_append, hd] at hn2
  have hlen : m + 1 = n := by simp at hn2; omega
  have hg : (d ++ [r])[m]? = some r := by rw [← hd]; simp
  obtain ⟨c1, c2, c3⟩ := own_rows h (by rw [List.length_append, hd]; simp; omega) m r hg
  have h2 := (World.ownsRow.stored h (m * 3) (.int .i64 q.1)).1
  have h3 := (World.ownsRow.stored h2 (m * 3 + 1) (.int .i64 q.2.1)).1
  have h4 := (World.ownsRow.stored h3 (m * 3 + 2) (.int .i64 q.2.2)).1
  have e := rowsC_last d r q
  rw [hd] at e
  rw [e] at h4
  have x1 : (rowsC (d ++ [r]))[m * 3 + 1]? = some (.int .i64 r.2.1) := by rw [← World.ownsRow.cellAt h _ (by omega)]; exact c2
  have x2 : (rowsC (d ++ [r]))[m * 3 + 2]? = some (.int .i64 r.2.2) := by rw [← World.ownsRow.cellAt h _ (by omega)]; exact c3
  refine ⟨c1, World.ownsRow.frozenAt h _, ?_, World.ownsRow.frozenAt h2 _, ?_, World.ownsRow.frozenAt h3 _, h4, fun hb => ?_⟩
  · rw [World.ownsRow.cellAt h2 _ (by omega), List.getElem?_set_ne (by omega)]; exact x1
  · rw [World.ownsRow.cellAt h3 _ (by omega), List.getElem?_set_ne (by omega), List.getElem?_set_ne (by omega)]; exact x2
  · exact (((Below.refl B w).setCell (p := ⟨g, m * 3, none⟩) hb _).setCell (p := ⟨g, m * 3 + 1, none⟩) hb _).setCell (p := ⟨g, m * 3 + 2, none⟩) hb _

set_option maxHeartbeats 1000000 in
theorem putWord_more (B : Nat) (v : Value) (d : List Tr) (f n s i : Nat) (x : ByteArray) (w : World) (ho : ORows B w v (d ++ [(f, n, s)])) (hB : B ≤ w.heap.size) (hd : d.length ≤ 1000) (h0 : 0 < n) (hn : n ≤ 1000000) (hs : s ≤ 1000000) (hx : x.size ≤ 1000000) :
    Calls Try.prog 104 #[v, .int .i64 i, .string x, .bool false] w fun e w' => ∃ v', e = .returned v' ∧ ORows B w' v' (d ++ [(f, n + 1, s + 1 + x.size)]) ∧ Below B w w' := by
  obtain ⟨i0, hi, hz0, hz1, hz2⟩ := info_parts infoRow
  obtain ⟨g, cap, rfl, hBg, hgw⟩ := World.ownsRow.form ho (by simp)
  obtain ⟨m, hm⟩ : ∃ m, d.length = m := ⟨_, rfl⟩
  have hl : (d ++ [(f, n, s)]).length = m + 1 := by rw [List.length_append, hm]; rfl
  unfold ORows at ho
  rw [hl] at ho ⊢
  rw [hm] at hd
  obtain ⟨c1, c2, c3⟩ := own_rows ho hl.symm m (f, n, s) (by rw [← hm]; simp)
  have HO := Lib.hid ho
  have HM := Lib.hid hm
  clear ho hl hm
  go_enter Try.func104, Try.ntmps104
  go_wp2_with fail
  refine (rowWith_more f n s x _ h0 hn hs hx).mono ?_
  rintro e w1 ⟨rfl, hb1⟩
  have HO1 : Hid (w1.ownsRow B 110 3 (.slice (some ⟨g, 0, none⟩) (m + 1) cap) (m + 1) (rowsC (d ++ [(f, n, s)]))) := Lib.hid (by
    have h : ORows B w (.slice (some ⟨g, 0, none⟩) (m + 1) cap) (d ++ [(f, n, s)]) := by unfold ORows; rw [List.length_append, HM.out]; exact HO.out
    have h2 := h.below (Nat.le_refl _) hb1
    unfold ORows at h2; rw [List.length_append, HM.out] at h2; exact h2)
  obtain ⟨k1, k2, k3, k4, k5, k6, HO4, b4⟩ := rows_stored HO1.out HM.out (f, n + 1, s + 1 + x.size)
  have B4 := Lib.hid ((hb1.mono hB).trans (b4 hBg))
  clear hb1 b4
  dsimp only at k1 k3 k4 k5 k6 HO4 B4
  simp only [Int.natCast_add, Int.natCast_one] at k1 k3 k4 k5 k6 HO4 B4
  go_wp2_with fail
  go_ret
  exact ⟨_, rfl, by unfold ORows; rw [List.length_append, HM.out]; exact HO4, B4.out⟩
theorem cell_three_new (w : World) (x y z : Value) (t : TypeId) : ∀ j u, [x, y, z][j]? = some u → (w.alloc (.cells #[x, y, z] t)).cell? ((⟨w.heap.size, 0, none⟩ : Addr).add j) = some u := by
  intro j u hj
  match j, hj with
  | 0, hj => simp at hj; subst hj; simp [Addr.add]
  | 1, hj => simp at hj; subst hj; simp [Addr.add]
  | 2, hj => simp at hj; subst hj; simp [Addr.add]

set_option maxHeartbeats 1000000 in
theorem putWord_open (B : Nat) (v : Value) (rs : List Tr) (i : Nat) (x : ByteArray) (w : World) (ho : ORows B w v rs) (hB : B ≤ w.heap.size) (hd : rs.length ≤ 1000) (hx : x.size ≤ 1000000) :
    Calls Try.prog 104 #[v, .int .i64 i, .string x, .bool true] w fun e w' => ∃ v', e = .returned v' ∧ ORows B w' v' (rs ++ [(i, 1, x.size)]) ∧ Below B w w' := by
  obtain ⟨i0, hi, hz0, hz1, hz2⟩ := info_parts infoRow
  obtain ⟨m, hm⟩ : ∃ m, rs.length = m := ⟨_, rfl⟩
  unfold ORows at ho
  rw [hm] at hd ho
  have HM := Lib.hid hm
  have lt0 : Hid (∀ g, v.ownBlock = some g → B ≤ g) := Lib.hid (fun g hg => (World.ownsRow.lt ho g hg).1)
  clear hm
  go_enter Try.func104, Try.ntmps104
  go_wp2_with (at_builtin; refine wpList_append_own _ rfl _ _ 108 rfl B 110 i0 (.agg #[.int .i64 0, .int .i64 0, .int .i64 0]) 3 24 Try.underlying108 hi hz0 hz1 hz2 rfl (by decide) _ _ _ rfl (World.ownsRow.alloc ho _) ⟨w.heap.size, 0, none⟩ 1 1 [.int .i64 i, .int .i64 0, .int .i64 0] rfl rfl ?c1 ?c2 ?c3 ?c4 ?c5 ?_)
  case c1 => exact cell_three_new _ _ _ _ _
  case c2 => intro u hu; simp at hu; rcases hu with h | h <;> subst h <;> rfl
  case c3 => unfold maxLen; omega
  case c4 => omega
  case c5 => simp; omega
  intro v1 w1 hown hgrow _
  obtain ⟨g, cap, rfl, hBg, hgw⟩ := World.ownsRow.form hown (by omega)
  have hb1 : Below B w w1 := ((Below.refl B w).alloc hB _).grown hgrow (by simp; omega) lt0.out
  have hown1 : w1.ownsRow B 110 3 (.slice (some ⟨g, 0, none⟩) (m + 1) cap) (m + 1) (rowsC (rs ++ [(i, 0, 0)])) := by rw [rowsC_app]; exact hown
  clear hown hgrow ho
  obtain ⟨c1, c2, c3⟩ := own_rows hown1 (by rw [List.length_append, HM.out]; rfl) m (i, 0, 0) (by rw [← HM.out]; simp)
  dsimp only at c1 c2 c3
  have HO := Lib.hid hown1
  have HB1 := Lib.hid hb1
  clear hown1 hb1
  go_wp2_with fail
  refine (rowWith_first i x _ hx).mono ?_
  rintro e w2 ⟨rfl, hb2⟩
  have HO1 : Hid (w2.ownsRow B 110 3 (.slice (some ⟨g, 0, none⟩) (m + 1) cap) (m + 1) (rowsC (rs ++ [(i, 0, 0)]))) := Lib.hid (by
    have h : ORows B w1 (.slice (some ⟨g, 0, none⟩) (m + 1) cap) (rs ++ [(i, 0, 0)]) := by unfold ORows; rw [List.length_append, HM.out]; exact HO.out
    have h2 := h.below (Nat.le_refl _) hb2
    unfold ORows at h2; rw [List.length_append, HM.out] at h2; exact h2)
  obtain ⟨k1, k2, k3, k4, k5, k6, HO4, b4⟩ := rows_stored HO1.out HM.out (i, 1, x.size)
  have B4 := Lib.hid (HB1.out.trans ((hb2.mono (by have := HB1.out.size; omega)).trans (b4 hBg)))
  clear hb2 b4
  dsimp only at k1 k3 k4 k5 k6 HO4 B4
  simp only [Int.natCast_one, Int.natCast_zero] at k1 k3 k4 k5 k6 HO4 B4
  go_wp2_with fail
  go_ret
  exact ⟨_, rfl, by unfold ORows; rw [List.length_append, HM.out]; exact HO4, B4.out⟩
/-- the rows of lines of words -/
def rowsG (f : Nat) : pl.Gs → List Tr
  | [] => []
  | g :: r => (f, g.length, pl.szJ g) :: rowsG (f + g.length) r
theorem rowsG_len : ∀ (gs : pl.Gs) (f : Nat), (rowsG f gs).length = gs.length
  | [], _ => rfl
  | g :: r, f => by unfold rowsG; rw [List.length_cons, rowsG_len r, List.length_cons]
theorem rowsG_app : ∀ (a b : pl.Gs) (f : Nat), rowsG f (a ++ b) = rowsG f a ++ rowsG (f + a.flatten.length) b
  | [], b, f => rfl
  | g :: a, b, f => by
    show (f, g.length, pl.szJ g) :: rowsG (f + g.length) (a ++ b) = (f, g.length, pl.szJ g) :: rowsG (f + g.length) a ++ _
    rw [rowsG_app a b, List.cons_append, List.flatten_cons, List.length_append, Nat.add_assoc]
theorem rowsG_snoc (d : pl.Gs) (c : List ByteArray) : rowsG 0 (d ++ [c]) = rowsG 0 d ++ [(d.flatten.length, c.length, pl.szJ c)] := by
  rw [rowsG_app, Nat.zero_add]; rfl
theorem rowsG_get (gs : pl.Gs) (i : Nat) (g : List ByteArray) (h : gs[i]? = some g) : (rowsG 0 gs)[i]? = some ((gs.take i).flatten.length, g.length, pl.szJ g) := by
  obtain ⟨hi, e⟩ := List.getElem?_eq_some_iff.1 h
  have e2 : gs = gs.take i ++ g :: gs.drop (i + 1) := by
    conv => lhs; rw [← List.take_append_drop i gs]
    rw [List.drop_eq_getElem_cons hi, e]
  have e3 : rowsG 0 gs = rowsG 0 (gs.take i) ++ rowsG (0 + (gs.take i).flatten.length) (g :: gs.drop (i + 1)) := by
    conv => lhs; rw [e2]
    exact rowsG_app _ _ _
  have hl : (rowsG 0 (gs.take i)).length = i := by rw [rowsG_len, List.length_take]; omega
  rw [e3, List.getElem?_append_right (by omega), hl, Nat.sub_self, Nat.zero_add]
  rfl
namespace pl
theorem szJ_bound : ∀ (g : List ByteArray), (∀ x ∈ g, x.size ≤ 12) → szJ g ≤ 13 * g.length
  | g, h => by
    have key : ∀ k, k ≤ g.length → szJ (g.take k) ≤ 13 * k := by
      intro k
      induction k with
      | zero => intro _; rw [List.take_zero]; unfold szJ; rw [joinB_nil]; exact Nat.zero_le _
      | succ k ih =>
        intro hk
        have ih' := ih (by omega)
        have hx := h (g[k]) (List.getElem_mem _)
        rw [List.take_succ_eq_append_getElem (by omega)]
        by_cases h0 : g.take k = []
        · rw [h0, List.nil_append, szJ_one]; omega
        · rw [szJ_snoc h0]; omega
    have := key g.length (Nat.le_refl _)
    rwa [List.take_length] at this
theorem mem_len_flatten {gs : Gs} {g : List ByteArray} (h : g ∈ gs) : g.length ≤ gs.flatten.length := by
  induction gs with
  | nil => simp at h
  | cons a r ih =>
    rw [List.flatten_cons, List.length_append]
    rcases List.mem_cons.1 h with rfl | h
    · omega
    · have := ih h; omega
end pl

/-- putWord on the rows of lines of words -/
theorem putWord_G (B : Nat) (v : Value) (gs : pl.Gs) (op : Bool) (i : Nat) (x : ByteArray) (w : World) (ho : ORows B w v (rowsG 0 gs)) (hB : B ≤ w.heap.size) (hf : gs.flatten.length = i) (hful : ∀ g ∈ gs, g ≠ []) (hne : gs = [] → op = true) (hi : i ≤ 100)
    (h12 : ∀ y ∈ gs.flatten, y.size ≤ 12) (hx : x.size ≤ 12) :
    Calls Try.prog 104 #[v, .int .i64 i, .string x, .bool op] w fun e w' => ∃ v', e = .returned v' ∧ ORows B w' v' (rowsG 0 (pl.putG gs x op)) ∧ Below B w w' := by
  have hlen : gs.length ≤ 1000 := by
    have : gs.length ≤ gs.flatten.length := by
      clear ho hf hne h12
      induction gs with
      | nil => simp
      | cons a r ih =>
        have h1 := ih (fun g hg => hful g (by simp [hg]))
        have h2 : 0 < a.length := List.length_pos_iff.2 (hful a (by simp))
        rw [List.flatten_cons, List.length_append, List.length_cons]; omega
    omega
  cases op with
  | true =>
    rw [pl.putG_open, rowsG_snoc, hf, pl.szJ_one]
    exact putWord_open B v (rowsG 0 gs) i x w ho hB (by rw [rowsG_len]; exact hlen) (by omega)
  | false =>
    have hgs : gs ≠ [] := fun e => by have := hne e; cases this
    obtain ⟨d, c, rfl, _⟩ := pl.snocG hgs
    have hc : c ≠ [] := hful c (by simp)
    have hcl : 0 < c.length := List.length_pos_iff.2 hc
    have hcl2 : c.length ≤ (d ++ [c]).flatten.length := pl.mem_len_flatten (by simp)
    have hsz : pl.szJ c ≤ 13 * c.length := pl.szJ_bound c (fun y hy => h12 y (List.mem_flatten.2 ⟨c, by simp, hy⟩))
    rw [List.length_append] at hlen
    rw [rowsG_snoc] at ho
    rw [pl.putG_more, rowsG_snoc, List.length_append, pl.szJ_snoc hc]
    exact putWord_more B v (rowsG 0 d) d.flatten.length c.length (pl.szJ c) i x w ho hB (by rw [rowsG_len]; omega) hcl (by omega) (by omega) (by omega)
end Go.Proofs.Ytgfpbnafehpopaa
