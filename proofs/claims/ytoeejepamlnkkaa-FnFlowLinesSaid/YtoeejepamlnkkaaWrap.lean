/- Contracts: WrapWords of both sides. -/
import Derived.Test.YtoeejepamlnkkaaTexts
import Derived.Test.YtoeejepamlnkkaaWordsV
namespace Go.Proofs.Ytoeejepamlnkkaa
open Go.RowKit
set_option maxRecDepth 100000

namespace pl
theorem greedy_flat (wd : Int) (l : List ByteArray) (k : Nat) (hk : k ≤ l.length) : (greedy wd l k).flatten = l.take k := grW_flatten _ _ _ hk
theorem greedy_full (wd : Int) (l : List ByteArray) (k : Nat) : ∀ g ∈ greedy wd l k, g ≠ [] := grW_full _ _ _
theorem mem_nth {l : List ByteArray} {x : ByteArray} (h : x ∈ l) : ∃ i, i < l.length ∧ nth l i = x := by
  obtain ⟨i, hi, rfl⟩ := List.getElem_of_mem h
  exact ⟨i, hi, nth_eq hi⟩
theorem words_12 {l : List ByteArray} (h : vWords l = true) : ∀ x ∈ l, x.size ≤ 12 := by
  intro x hx
  obtain ⟨i, hi, rfl⟩ := mem_nth hx
  exact (wordOK_parts ((vWords_parts h).2 i hi)).2.1
theorem fitA_no {l : List ByteArray} {wd : Int} (h : vWords l = false ∨ inR wd 1 120 = false ∨ shortAll l wd = false) : fitA l wd = false := by
  unfold fitA
  rcases h with h | h | h <;> simp [h]
theorem fitA_yes {l : List ByteArray} {wd : Int} (h1 : vWords l = true) (h2 : inR wd 1 120 = true) (h3 : shortAll l wd = true) : fitA l wd = true := by simp [fitA, h1, h2, h3]
theorem inR_parts {n lo hi : Int} (h : inR n lo hi = true) : lo ≤ n ∧ n ≤ hi := by simpa [inR] using h
end pl

theorem field_size (a b c : Value) (w : World) : (Instr.field 66 (.agg #[a, b, c]) 2).run Try.prog w = .ok c w := by kernel_rfl

set_option maxHeartbeats 2000000 in
theorem iWrapWords_any (l : List ByteArray) (wd : Int) (v : Value) (w : World) (hl : LStrs w v l) (hlen : l.length ≤ maxLen) (hsz : ∀ i, i < l.length → (nth l i).size ≤ maxLen) :
    Calls Try.prog 16 #[v, .int .i64 wd] w fun e w' => ∃ v', e = .returned (.tuple #[v', .bool (pl.fitA l wd)]) ∧ OStrs w.heap.size w' v' (pl.wrapR l wd) ∧ Below w.heap.size w w' := by
  by_cases hv : pl.vWords l = true
  · by_cases hin : pl.inR wd 1 120 = true
    · obtain ⟨n, hne⟩ : ∃ n, n = l.length := ⟨_, rfl⟩
      have h9 : n ≤ 9 := by rw [hne]; exact (pl.vWords_parts hv).1
      have h12 : Hid (∀ x ∈ l, x.size ≤ 12) := Lib.hid (pl.words_12 hv)
      have hwd := pl.inR_parts hin
      have HL := Lib.hid hl
      have HV := Lib.hid hv
      have HI := Lib.hid hin
      have HS := Lib.hid hsz
      have HLn := Lib.hid hlen
      obtain ⟨hr, a0, cap0, rfl, hcap⟩ := hl
      have HR := Lib.hid hr
      rw [← hne] at hcap HR HL ⊢
      have HN := Lib.hid hne
      clear hne hr hv hin hsz hlen
      go_enter Try.func16, Try.ntmps16
      go_wp2_with fail
      refine (iValidWords_any l _ _ HR.out HLn.out HS.out).mono ?_
      rintro e w1 ⟨rfl, hb1⟩
      rw [HV.out]
      go_wp2_with fail
      refine (isWidth_any _ _).mono ?_
      rintro e w' ⟨rfl, rfl⟩
      rw [HI.out]
      go_wp2_with fail
      go_loopw [6, 20] (fun vv iv wr => ∃ k : Nat, k ≤ n ∧ iv = .int .i64 k ∧ ORows w.heap.size wr vv (rowsG 0 (pl.greedy wd l k)) ∧ (k = 0 → vv = .slice none 0 0) ∧ Hid (∀ i, i < k → ((nth l i).size : Int) ≤ wd) ∧ Below w.heap.size w wr) (fun _ iv _ => n - (intOf iv).toNat)
      case atStart => exact ⟨0, Nat.zero_le _, rfl, ORows.nil _ _, fun _ => rfl, Lib.hid (fun i h => absurd h (by omega)), hb1⟩
      case round =>
        obtain ⟨k, hk, rfl, hown, hv0, hsh, hbel⟩ := hrel
        by_cases hlt : k < n
        · obtain ⟨b1, o1, rfl, hx⟩ := HR.out.at HN.out hbel hlt
          obtain ⟨x, HX⟩ : ∃ x, Hid (nth l k = x) := ⟨_, Lib.hid rfl⟩
          have hx12 : x.size ≤ 12 := by
            rw [← HX.out, nth_eq (by rw [← HN.out]; exact hlt)]
            exact h12.out _ (List.getElem_mem _)
          rw [HX.out] at hx
          by_cases hlong : wd < (x.size : Int)
          · have hb := Lib.hid (pl.fitA_no (l := l) (wd := wd) (.inr (.inr (pl.shortAll_no (k := k) (by rw [← HN.out]; exact hlt) (by rw [HX.out]; exact hlong)))))
            have hw := Lib.hid (pl.wrapR_no hb.out)
            clear hown hv0
            go_wp2_with fail
            go_ret2
            exact ⟨_, by rw [hb.out]; rfl, by rw [hw.out]; exact OStrs.nil _ _, hbel⟩
          · have hsh2 : Hid (∀ i, i < k + 1 → ((nth l i).size : Int) ≤ wd) := Lib.hid (fun i hi => by
              by_cases e : i = k
              · subst e; rw [HX.out]; omega
              · exact hsh.out i (by omega))
            have hfl : Hid ((pl.greedy wd l k).flatten = l.take k) := Lib.hid (pl.greedy_flat wd l k (by rw [← HN.out]; exact hk))
            have hflen : Hid ((pl.greedy wd l k).flatten.length = k) := Lib.hid (by rw [hfl.out, List.length_take, ← HN.out]; omega)
            have hfu : Hid (∀ g ∈ pl.greedy wd l k, g ≠ []) := Lib.hid (pl.greedy_full wd l k)
            have hf12 : Hid (∀ y ∈ (pl.greedy wd l k).flatten, y.size ≤ 12) := Lib.hid (fun y hy => by rw [hfl.out] at hy; exact h12.out y (List.mem_of_mem_take hy))
            by_cases h0 : k = 0
            · have hvv := hv0 h0
              subst hvv
              have hg1 : Hid (pl.putG (pl.greedy wd l k) x true = pl.greedy wd l (k + 1)) := Lib.hid (by subst h0; rw [← HX.out]; rfl)
              have HO := Lib.hid hown
              have HB := Lib.hid hbel
              clear hown hv0 h0 hbel
              go_wp2_with fail
              refine (putWord_G w.heap.size _ (pl.greedy wd l k) true k x _ HO.out HB.out.size hflen.out hfu.out (fun _ => rfl) (by omega) hf12.out hx12).mono ?_
              rintro e w2 ⟨v2, rfl, ho2, hb2⟩
              rw [hg1.out] at ho2
              have HB2 := Lib.hid (HB.out.trans hb2)
              clear hb2
              go_wp2_with fail
              go_roundw
              case rel => exact ⟨k + 1, by omega, by go_num, ho2, fun h => absurd h (by omega), hsh2, HB2.out⟩
              case measure => simp [intOf]; omega
            · obtain ⟨d, c, hdc, hcne⟩ := pl.greedy_snoc wd l (k := k) (by omega)
              have HDC := Lib.hid hdc
              rw [hdc, rowsG_snoc] at hown
              obtain ⟨D, hD⟩ : ∃ D, Hid (d.flatten.length = D) := ⟨_, Lib.hid rfl⟩
              obtain ⟨C, hC⟩ : ∃ C, Hid (c.length = C) := ⟨_, Lib.hid rfl⟩
              obtain ⟨Z, hZ⟩ : ∃ Z, Hid (pl.szJ c = Z) := ⟨_, Lib.hid rfl⟩
              obtain ⟨m, hm⟩ : ∃ m, Hid ((rowsG 0 d).length = m) := ⟨_, Lib.hid rfl⟩
              rw [hD.out, hC.out, hZ.out] at hown
              have hC0 : 0 < C := by rw [← hC.out]; exact List.length_pos_iff.2 hcne
              have hcmem : c ∈ pl.greedy wd l k := by rw [hdc]; simp
              have hCk : C ≤ k := by rw [← hC.out, ← hflen.out]; exact pl.mem_len_flatten hcmem
              have hZb : Z ≤ 13 * C := by
                rw [← hZ.out, ← hC.out]
                exact pl.szJ_bound c (fun y hy => hf12.out y (List.mem_flatten.2 ⟨c, hcmem, hy⟩))
              have hml : m ≤ 9 := by
                have h1 := pl.grW_len (pl.opG wd) l k
                have h2 : (pl.greedy wd l k).length ≤ k := h1
                rw [hdc, List.length_append] at h2
                rw [← hm.out, rowsG_len]; simp at h2; omega
              have HO := Lib.hid hown
              obtain ⟨g, cap, rfl, hBg, hgw⟩ := World.ownsRow.form hown (by simp)
              have hl1 : (rowsG 0 d ++ [(D, C, Z)]).length = m + 1 := by rw [List.length_append, hm.out]; rfl
              unfold ORows at hown
              rw [hl1] at hown HO ⊢
              obtain ⟨c1, c2, c3⟩ := own_rows hown hl1.symm m (D, C, Z) (by rw [← hm.out]; simp)
              dsimp only at c1 c2 c3
              have HB := Lib.hid hbel
              clear hown hv0 h0 hbel hdc hl1 hcne hcmem
              have hnx : Hid (pl.putG (pl.greedy wd l k) x (decide (wd < (Z : Int) + 1 + x.size)) = pl.greedy wd l (k + 1)) := Lib.hid (by
                have h1 : pl.opG wd k (pl.greedy wd l k) (nth l k) = decide (wd < (Z : Int) + 1 + x.size) := by
                  unfold pl.opG
                  rw [HDC.out, pl.lastG_snoc, hZ.out, HX.out]; simp
                have h2 : pl.greedy wd l (k + 1) = pl.putG (pl.greedy wd l k) (nth l k) (pl.opG wd k (pl.greedy wd l k) (nth l k)) := rfl
                rw [h2, h1, HX.out])
              have hne : Hid (pl.greedy wd l k ≠ []) := Lib.hid (by rw [HDC.out]; simp)
              have HO2 : Hid (ORows w.heap.size wr (.slice (some ⟨g, 0, none⟩) (m + 1) cap) (rowsG 0 (pl.greedy wd l k))) := Lib.hid (by rw [HDC.out, rowsG_snoc, hD.out, hC.out, hZ.out]; exact HO.out)
              have hnx2 : Hid (pl.putG (pl.greedy wd l k) x (((m : Int) + 1 == 0) || decide (wd < (Z : Int) + 1 + x.size)) = pl.greedy wd l (k + 1)) := Lib.hid (by
                have e : ((m : Int) + 1 == 0) = false := by simp; omega
                rw [e, Bool.false_or]; exact hnx.out)
              go_wp2_with fail
              refine (rowWith_more D C Z x _ hC0 (by omega) (by omega) (by omega)).mono ?_
              rintro e w2 ⟨rfl, hb2⟩
              have HO3 := Lib.hid (HO2.out.below (Nat.le_refl _) hb2)
              have HB2 := Lib.hid (HB.out.trans (hb2.mono HB.out.size))
              have hfd := field_size (.int .i64 D) (.int .i64 ((C : Int) + 1)) (.int .i64 ((Z : Int) + 1 + x.size)) w2
              clear hb2
              go_wp2_with fail
              refine (putWord_G w.heap.size _ (pl.greedy wd l k) (((m : Int) + 1 == 0) || decide (wd < (Z : Int) + 1 + x.size)) k x _ HO3.out HB2.out.size hflen.out hfu.out (fun h => absurd h hne.out) (by omega) hf12.out hx12).mono ?_
              rintro e w3 ⟨v2, rfl, ho2, hb2⟩
              rw [hnx2.out] at ho2
              have HB3 := Lib.hid (HB2.out.trans hb2)
              clear hb2
              go_wp2_with fail
              go_roundw
              case rel => exact ⟨k + 1, by omega, by go_num, ho2, fun h => absurd h (by omega), hsh2, HB3.out⟩
              case measure => simp [intOf]; omega
        · obtain rfl : k = n := by omega
          have hfit := Lib.hid (pl.fitA_yes HV.out HI.out (pl.shortAll_yes (by rw [← HN.out]; exact hsh.out)))
          have hres : Hid ((pl.greedy wd l k).map pl.jline = pl.wrapR l wd) := Lib.hid (by rw [pl.wrapR_yes hfit.out, HN.out]; rfl)
          have hfl : Hid ((pl.greedy wd l k).flatten = l) := Lib.hid (by rw [pl.greedy_flat wd l k (by rw [← HN.out]; exact Nat.le_refl _), HN.out, List.take_length])
          have hfu : Hid (∀ g ∈ pl.greedy wd l k, g ≠ []) := Lib.hid (pl.greedy_full wd l k)
          have HLb := Lib.hid (HL.out.below (Nat.le_refl _) hbel)
          have HG := Lib.hid hown.reads
          have HB := Lib.hid hbel
          clear hown hv0 hbel
          go_wp2_with fail
          refine (textsOf_any _ _ _ l (pl.greedy wd l k) _ HLb.out HG.out hfl.out hfu.out (by rw [← HN.out]; omega) h12.out rfl).mono ?_
          rintro e w2 ⟨v2, rfl, ho2, hb2⟩
          rw [hres.out] at ho2
          have HB2 := Lib.hid (HB.out.trans (hb2.mono HB.out.size))
          have HO2 := Lib.hid (ho2.mono HB.out.size)
          clear hb2 ho2
          go_wp2_with fail
          go_ret2
          exact ⟨_, by rw [hfit.out]; rfl, HO2.out, HB2.out⟩
    · have hin' : pl.inR wd 1 120 = false := by simpa using hin
      have hb := Lib.hid (pl.fitA_no (l := l) (wd := wd) (.inr (.inl hin')))
      have hw := Lib.hid (pl.wrapR_no hb.out)
      clear hin
      go_enter Try.func16, Try.ntmps16
      go_wp2_with fail
      refine (iValidWords_any l _ _ hl.1 hlen hsz).mono ?_
      rintro e w1 ⟨rfl, hb1⟩
      rw [hv]
      go_wp2_with fail
      refine (isWidth_any _ _).mono ?_
      rintro e w' ⟨rfl, rfl⟩
      rw [hin']
      go_wp2_with fail
      go_ret2
      exact ⟨_, by rw [hb.out]; rfl, by rw [hw.out]; exact OStrs.nil _ _, hb1⟩
  · have hv' : pl.vWords l = false := by simpa using hv
    have hb := Lib.hid (pl.fitA_no (l := l) (wd := wd) (.inl hv'))
    have hw := Lib.hid (pl.wrapR_no hb.out)
    clear hv
    go_enter Try.func16, Try.ntmps16
    go_wp2_with fail
    refine (iValidWords_any l _ _ hl.1 hlen hsz).mono ?_
    rintro e w1 ⟨rfl, hb1⟩
    rw [hv']
    go_wp2_with fail
    go_ret2
    exact ⟨_, by rw [hb.out]; rfl, by rw [hw.out]; exact OStrs.nil _ _, hb1⟩
end Go.Proofs.Ytoeejepamlnkkaa
