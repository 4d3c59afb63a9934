/- Contracts: readForm, countHoles, namesOf, and rows of pieces. -/
import Derived.Test.YtadlelcckalcoaaPlainFq
import Derived.Test.YtadlelcckalcoaaForm
import Derived.Test.YtadlelcckalcoaaPairs
namespace Go.Proofs.Ytadlelcckalcoaa
open Go.RowKit
set_option maxRecDepth 100000
set_option linter.unusedVariables false

theorem infoPc : (Try.prog.info? 97).map (fun i => (i.zero, i.size, i.bytes)) = some (some (.agg #[.string ByteArray.empty, .string ByteArray.empty]), 2, 32) := by kernel_rfl
theorem cell_two_new (w : World) (x y : Value) (t : TypeId) : ∀ j u, [x, y][j]? = some u → (w.alloc (.cells #[x, y] t)).cell? ((⟨w.heap.size, 0, none⟩ : Addr).add j) = some u := by
  intro j u hu
  match j, hu with
  | 0, hu => simp at hu; subst hu; simp [Addr.add]
  | 1, hu => simp at hu; subst hu; simp [Addr.add]
  | j + 2, hu => simp at hu
def pcV (ps : List pl.Pc) : List Pr := ps.map fun p => (.string p.1, .string p.2)
theorem pcV_len (ps : List pl.Pc) : (pcV ps).length = ps.length := by simp [pcV]
theorem pcV_nth {ps : List pl.Pc} {i : Nat} (h : i < ps.length) : nthC (pcV ps) i = (.string (pl.nthQ ps i).1, .string (pl.nthQ ps i).2) := by
  rw [nthC_eq (by rw [pcV_len]; exact h), pl.nthQ_eq h]
  simp [pcV]
theorem pairC_append (a b : List Pr) : pairC (a ++ b) = pairC a ++ pairC b := by
  induction a with
  | nil => rfl
  | cons p a ih => simp [pairC, ih]
/-- v owns these pieces -/
def OPc (B : Nat) (w : World) (v : Value) (ps : List pl.Pc) : Prop := OPr 97 B w v ps.length (pcV ps)
theorem OPc.nil (B : Nat) (w : World) : OPc B w (.slice none 0 0) [] := World.ownsRow_nil _ _ _ _
theorem OPc.below {B : Nat} {w w' : World} {v : Value} {ps : List pl.Pc} (h : OPc B w v ps) (hb : Below w.heap.size w w') : OPc B w' v ps := pr_below h hb
theorem OPc.push {B : Nat} {w : World} {v : Value} {ps : List pl.Pc} {n p : ByteArray} (h : w.ownsRow B 97 2 v (ps.length + 1) (pairC (pcV ps) ++ [.string n, .string p])) : OPc B w v (ps ++ [(n, p)]) := by
  unfold OPc OPr
  rw [List.length_append, List.length_singleton]
  have : pcV (ps ++ [(n, p)]) = pcV ps ++ [(.string n, .string p)] := by simp [pcV]
  rw [this, pairC_append]
  exact h
/-- v reads as these pieces -/
def RPc (w : World) (v : Value) (ps : List pl.Pc) : Prop :=
  (ps = [] ∧ ∃ a cap, v = .slice a 0 cap) ∨ (0 < ps.length ∧ ∃ b o cap, v = .slice (some ⟨b, o, none⟩) ps.length cap ∧ b < w.heap.size ∧ ∀ i, i < ps.length → w.cell? ⟨b, o + i * 2, none⟩ = some (.string (pl.nthQ ps i).1) ∧ w.cell? ⟨b, o + i * 2 + 1, none⟩ = some (.string (pl.nthQ ps i).2))
theorem OPc.reads {B : Nat} {w : World} {v : Value} {ps : List pl.Pc} (h : OPc B w v ps) : RPc w v ps := by
  have hw := h
  rcases h.2 with ⟨hv, hn⟩ | ⟨g, cap, cur, hv, hB, hg, hle, hm, hs, htake⟩
  · exact .inl ⟨List.length_eq_zero_iff.1 hn, none, 0, hv⟩
  · rcases Nat.eq_zero_or_pos ps.length with h0 | h0
    · exact .inl ⟨List.length_eq_zero_iff.1 h0, _, cap, by rw [hv, h0]⟩
    · refine .inr ⟨h0, g, 0, cap, hv, (Array.getElem?_eq_some_iff.1 hg).1, fun i hi => ?_⟩
      unfold OPc at hw
      rw [hv] at hw
      obtain ⟨h1, h2, _, _⟩ := pr_cells hw hi
      rw [pcV_nth hi] at h1 h2
      rw [Nat.zero_add]
      exact ⟨h1, h2⟩
theorem RPc.below {C : Nat} {w w' : World} {v : Value} {ps : List pl.Pc} (h : RPc w v ps) (hC : w.heap.size ≤ C) (hb : Below C w w') : RPc w' v ps := by
  rcases h with h | ⟨h0, b, o, cap, hv, hlt, hc⟩
  · exact .inl h
  · exact .inr ⟨h0, b, o, cap, hv, Nat.lt_of_lt_of_le hlt hb.size, fun i hi => ⟨(hb.cell (p := ⟨b, o + i * 2, none⟩) (by show b < C; omega)).trans (hc i hi).1, (hb.cell (p := ⟨b, o + i * 2 + 1, none⟩) (by show b < C; omega)).trans (hc i hi).2⟩⟩
theorem RPc.slice {w : World} {v : Value} {ps : List pl.Pc} (h : RPc w v ps) : ∃ a cap, v = .slice a ps.length cap := by
  rcases h with ⟨hl, a, cap, hv⟩ | ⟨_, b, o, cap, hv, _⟩
  · exact ⟨a, cap, by rw [hv, hl]; rfl⟩
  · exact ⟨_, _, hv⟩
theorem RPc.at {w w' : World} {a : Option Addr} {n cap : Nat} {ps : List pl.Pc} (h : RPc w (.slice a n cap) ps) (hn : n = ps.length) (hb : Below w.heap.size w w') {i : Nat} (hi : i < n) :
    ∃ b o, a = some ⟨b, o, none⟩ ∧ b < w.heap.size ∧ w'.cell? ⟨b, o + i * 2, none⟩ = some (.string (pl.nthQ ps i).1) ∧ w'.cell? ⟨b, o + i * 2 + 1, none⟩ = some (.string (pl.nthQ ps i).2) := by
  rcases h with ⟨hl, _⟩ | ⟨h0, b, o, c, hv, hlt, hc⟩
  · rw [hl] at hn; simp at hn; omega
  · injection hv with h1 h2 h3
    obtain ⟨c1, c2⟩ := hc i (by omega)
    exact ⟨b, o, h1, hlt, (hb.cell (p := ⟨b, o + i * 2, none⟩) hlt).trans c1, (hb.cell (p := ⟨b, o + i * 2 + 1, none⟩) hlt).trans c2⟩

set_option maxHeartbeats 1000000 in
theorem countHoles_any (ps : List pl.Pc) (v : Value) (w : World) (hr : RPc w v ps) (hl : ps.length ≤ 1000) :
    Calls Try.prog 59 #[v] w fun e w' => e = .returned (.int .i64 ((pl.holesT (pl.flatP ps)).length : Nat)) ∧ Below w.heap.size w w' := by
  have HR := Lib.hid hr
  obtain ⟨a0, c0, rfl⟩ := hr.slice
  obtain ⟨n, HN⟩ : ∃ n, Hid (n = ps.length) := ⟨_, Lib.hid rfl⟩
  rw [← HN.out] at HR hl ⊢
  clear hr
  go_enter Try.func59, Try.ntmps59
  go_wp2_with fail
  go_loopw [3, 8] (fun cv iv wr => ∃ (i h : Nat), i ≤ n ∧ iv = .int .i64 i ∧ cv = .int .i64 h ∧ Hid (pl.holesN ps i = h) ∧ Hid (Below w.heap.size w wr)) (fun _ iv _ => n - (intOf iv).toNat)
  case atStart => exact ⟨0, 0, Nat.zero_le _, rfl, rfl, Lib.hid rfl, Lib.hid (Below.refl _ _)⟩
  case round =>
    obtain ⟨i, h, hi, rfl, rfl, HH, HB⟩ := hrel
    have hle : h ≤ n := by have := pl.holesN_le (ps := ps) (k := i) (by rw [← HN.out]; exact hi); rw [HH.out] at this; omega
    by_cases hlt : i < n
    · obtain ⟨b, o, rfl, hbw, c1, c2⟩ := HR.out.at HN.out HB.out hlt
      have hil : i < ps.length := by rw [← HN.out]; exact hlt
      have HHO := Lib.hid (fun hn => pl.holesN_hole (ps := ps) hil hn)
      have HHP := Lib.hid (fun hn => pl.holesN_plain (ps := ps) hil hn)
      obtain ⟨nm, HNM⟩ : ∃ nm, Hid ((pl.nthQ ps i).1 = nm) := ⟨_, Lib.hid rfl⟩
      obtain ⟨pt, HPT⟩ : ∃ pt, Hid ((pl.nthQ ps i).2 = pt) := ⟨_, Lib.hid rfl⟩
      rw [HNM.out] at c1 HHO HHP
      rw [HPT.out] at c2
      rw [HH.out] at HHO HHP
      clear hil
      go_wp2_with fail
      refine (isHole_any nm pt _).mono ?_
      rintro e w2 ⟨rfl, hb2⟩
      have hA : Below wr.heap.size wr (wr.alloc (.cells #[.string nm, .string pt] 97)) := (Below.refl _ _).alloc (Nat.le_refl _) _
      have HB2 := Lib.hid (HB.out.trans ((hA.trans (hb2.mono hA.size)).mono HB.out.size))
      clear hb2 hA
      by_cases hz : nm.size = 0
      · have hd : decide (¬ nm.size = 0) = false := decide_eq_false (by omega)
        have HN2 := Lib.hid (HHP.out hz)
        rw [hd]
        clear hd hz
        go_wp2_with fail
        go_roundw
        case rel => exact ⟨i + 1, h, by omega, by go_num, rfl, HN2, HB2⟩
        case measure => simp [intOf]; omega
      · have hd : decide (¬ nm.size = 0) = true := decide_eq_true hz
        have HN2 := Lib.hid (HHO.out hz)
        rw [hd]
        clear hd hz
        go_wp2_with fail
        go_roundw
        case rel => exact ⟨i + 1, h + 1, by omega, by go_num, by go_num, HN2, HB2⟩
        case measure => simp [intOf]; omega
    · obtain rfl : i = n := by omega
      have HE : Hid ((pl.holesT (pl.flatP ps)).length = h) := Lib.hid (by
        rw [← HH.out, HN.out]; unfold pl.holesN; rw [pl.flatTo_all])
      go_wp2_with fail
      go_ret
      exact ⟨by rw [HE.out]; rfl, HB.out⟩
end Go.Proofs.Ytadlelcckalcoaa
