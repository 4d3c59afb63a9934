/- Contract: DrawFlowLines. -/
import Derived.Test.YtoeejepamlnkkaaDrawS
import Derived.Test.YtoeejepamlnkkaaUnfl
import Derived.Test.YtoeejepamlnkkaaBytes
import Derived.Maps.AppendAt
namespace Go.Proofs.Ytoeejepamlnkkaa
open Go.RowKit
set_option maxRecDepth 100000

theorem OPs.read {B g : Nat} {w w' : World} {v : Value} {us : List Value} {ps : pl.Gs} (h : OPs B w v us ps) (hg : w.grownBy w' (some g)) (hlt : g < B) : OPs B w' v us ps :=
  ⟨own_keep h.1 (fun k hk => hg.block k (World.ownsRow.lt h.1 k hk).2 (fun e => by
    have h1 := (World.ownsRow.lt h.1 k hk).1
    injection e with e
    omega)), h.2.keep (fun i k hi hk => hg.block k (h.2.lt i k hi hk).2 (fun e => by
    have h1 := (h.2.lt i k hi hk).1
    injection e with e
    omega))⟩
def FewP (ps : pl.Gs) : Prop := ∀ k, k < ps.length → (pl.nthP ps k).length ≤ 10 ∧ few 20 (pl.nthP ps k)
theorem FewP.nil : FewP [] := fun k h => by simp at h
theorem FewP.push {ps : pl.Gs} {l : List ByteArray} (h : FewP ps) (h1 : l.length ≤ 10) (h2 : few 20 l) : FewP (ps ++ [l]) := by
  intro k hk
  by_cases e : k < ps.length
  · rw [nthP_left e]; exact h k e
  · have e2 : k = ps.length := by simp at hk; omega
    subst e2
    rw [nthP_last]; exact ⟨h1, h2⟩

set_option maxHeartbeats 4000000 in
theorem dFlowLines_any (a : Option Addr) (len cap : Nat) (zs : List Int) (w : World) (hr : IsRow .u8 w a len cap zs) :
    Calls Try.prog 23 #[.slice a len cap] w fun e w' => ∃ (v : Value) (ps : pl.Gs) (x : Int), e = .returned (.tuple #[v, .int .i64 x]) ∧ HPs w.heap.size w' v ps ∧ ps.length ≤ 4 ∧ FewP ps ∧ (0 ≤ x ∧ x ≤ 120) ∧ Below w.heap.size w w' := by
  obtain ⟨j0, hj, hy0, hy1, hy2⟩ := info_parts infoSS
  go_enter Try.func23, Try.ntmps23
  go_wp2_with fail
  refine (newReader_any a len cap zs _ hr).mono ?_
  rintro e w1 ⟨n, c, rfl, hR, hb1⟩
  have habove := hR.above
  have hgw := hR.lt
  have S1 := Lib.hid hb1.size
  have HB1 := Lib.hid hb1
  clear hb1
  obtain ⟨C, HC⟩ : ∃ C, Hid (w1.heap.size = C) := ⟨_, Lib.hid rfl⟩
  go_wp2_with fail
  have hR0 := hR.below (C := w1.heap.size) (by omega) hgw ((Below.refl _ _).alloc (Nat.le_refl _) (.cells #[] 23))
  have ho0 : OPs w1.heap.size (w1.alloc (.cells #[] 23)) (.slice (some ⟨w1.heap.size, 0, none⟩) 0 0) [] [] := ⟨World.ownsRow_made _ _ _ (Nat.le_refl _) (by unfold maxLen; omega) rfl, Inn.nil _ _⟩
  obtain ⟨w0, HW0⟩ : ∃ u, Hid (w1.alloc (.cells #[] 23) = u) := ⟨_, Lib.hid rfl⟩
  have hg0 : w1.grownBy w0 (some w.heap.size) := by rw [← HW0.out]; exact grown_al w1 _
  have hsz1 : w0.heap.size = w1.heap.size + 1 := by rw [← HW0.out]; simp
  rw [HW0.out] at hR0 ho0 ⊢
  rw [← hsz1]
  refine (one_lit 0 4 5 _ rfl (by omega) (by omega) ?_ _ _ n c 0 a _ hR0 (by omega)).mono ?_
  · simp [okInts]
  rintro e w2 ⟨x, rfl, hx0, hx8, p1, hp1, hR1, hg1⟩
  obtain ⟨x, rfl⟩ := Int.eq_ofNat_of_zero_le hx0
  have ho1 := ho0.read hg1 hgw
  go_wp2_with fail
  have HS1 := hsz1
  have hg2 : w1.grownBy w2 (some w.heap.size) := grown_tr hg0 hg1
  clear hg1 hg0 ho0 hR0 hR hsz1
  go_loopw [5, 6] (fun lv cv wr => ∃ (j : Nat) (us : List Value) (ps : pl.Gs) (p' : Nat), j ≤ 4 ∧ cv = .int .i64 j ∧ OPs w1.heap.size wr lv us ps ∧ Hid (ps.length ≤ 4 - j) ∧ Hid (FewP ps) ∧ p' ≤ 1 + 20 * (4 - j) ∧ Rdr w.heap.size w.heap.size n c p' a wr ∧ w1.grownBy wr (some w.heap.size)) (fun _ cv _ => (intOf cv).toNat)
  case atStart => exact ⟨x, [], [], p1, by omega, rfl, ho1, Lib.hid (Nat.zero_le _), Lib.hid FewP.nil, by omega, hR1, hg2⟩
  case round =>
    obtain ⟨j, us, ps, p', hj4, rfl, hown, hll, hfew, hp', hR, hgr⟩ := hrel
    have HO := Lib.hid hown
    have HG := Lib.hid hgr
    clear hown hgr
    by_cases h0 : 0 < j
    · have h0i : (0 : Int) < (j : Int) := by omega
      go_wp2_with fail
      refine (someWords_any _ _ n c p' a _ hR (by omega)).mono ?_
      rintro e w3 ⟨v3, l, rfl, ho3, hl, hf, p3, hp3, hR3, hg3⟩
      have HO3 := Lib.hid (HO.out.read hg3 hgw)
      have HG3 := Lib.hid (grown_tr HG.out hg3)
      have LT3 := Lib.hid HO.out.lt
      have hwr : w1.heap.size ≤ wr.heap.size := HG.out.size
      have hw3 : wr.heap.size ≤ w3.heap.size := hg3.size
      have HQ3 := Lib.hid ho3
      have hll0 := hll.out
      have hul : Hid (us.length = ps.length) := Lib.hid HO.out.2.len
      obtain ⟨a3, c3, hv3⟩ := ho3.reads.slice
      obtain ⟨N3, HN3⟩ : ∃ N3, Hid (l.length = N3) := ⟨_, Lib.hid rfl⟩
      rw [HN3.out] at hv3
      clear hg3 ho3
      subst hv3
      generalize wr.heap.size = D at LT3 hwr hw3 HQ3
      go_wp2_with (at_builtin; refine wpList_append_own _ rfl _ _ 39 rfl w1.heap.size 23 j0 (.slice none 0 0) 1 24 Try.underlying39 hj hy0 hy1 hy2 rfl (by decide) _ _ _ rfl (World.ownsRow.alloc HO3.out.1 _) ⟨w3.heap.size, 0, none⟩ 1 1 [.slice a3 N3 c3] rfl rfl ?ka1 ?ka2 ?ka3 ?ka4 ?ka5 ?_)
      case ka1 => exact cell_one_new _ _ _
      case ka2 => intro u hu; simp at hu; subst hu; rfl
      case ka3 => have := hul.out; unfold maxLen; omega
      case ka4 => have := hul.out; omega
      case ka5 => simp; omega
      intro v4 w4 hown4 hgrow4 _
      have HP4 := Lib.hid (HO3.out.pushed HQ3.out hwr LT3.out hown4 hgrow4)
      have hbE : Below w1.heap.size w3 w4 := ((Below.refl _ _).alloc (Nat.le_trans hwr hw3) _).grown hgrow4 (by simp; omega) (fun k hk => (World.ownsRow.lt HO3.out.1 k hk).1)
      have HGE := Lib.hid (grown_then HG3.out hbE)
      have HRE := Lib.hid (hR3.below (C := w1.heap.size) (by omega) hgw hbE)
      have hf2 := Lib.hid (hfew.out.push hl hf)
      clear hown4 hgrow4 hbE
      go_wp2
      go_roundw
      case rel => exact ⟨j - 1, _, _, p3, by omega, by go_num, HP4.out, Lib.hid (by simp; omega), hf2, by omega, HRE.out, HGE.out⟩
      case measure => simp [intOf]; omega
    · obtain rfl : j = 0 := by omega
      have hll0 := hll.out
      go_wp2_with fail
      refine (one_lit 0 120 8 _ rfl (by omega) (by omega) ?_ _ _ n c p' a _ hR (by omega)).mono ?_
      · simp [okInts]
      rintro e w3 ⟨y, rfl, hy30, hy31, p3, hp3, hR3, hg3⟩
      have HO3 := Lib.hid (HO.out.read hg3 hgw)
      have HG3 := Lib.hid (grown_tr HG.out hg3)
      have HB3 := Lib.hid (HB1.out.grown HG3.out HB1.out.size (fun k hk => by cases hk; exact Nat.le_refl _))
      clear hg3
      go_wp2_with fail
      refine bodyPost_ret (v := .tuple #[u5, .int .i64 y]) (by simp [results, Try.results23, go_sem]) rfl ?_
      exact ⟨_, ps, y, rfl, ⟨us, HO3.out.mono S1.out⟩, by omega, hfew.out, ⟨hy30, hy31⟩, HB3.out⟩
end Go.Proofs.Ytoeejepamlnkkaa
