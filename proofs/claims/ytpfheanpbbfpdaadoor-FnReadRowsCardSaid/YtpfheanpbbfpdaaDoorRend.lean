/- Contract: the program's RenderRows. -/
import Derived.Test.YtpfheanpbbfpdaaDoorPadC
import Derived.Test.YtpfheanpbbfpdaaDoorAcrS
import Derived.Test.YtpfheanpbbfpdaaDoorPkC
import Derived.Test.YtpfheanpbbfpdaaDoorJoinI
namespace Go.Proofs.YtpfheanpbbfpdaaDoor
open Go.RowKit
set_option maxRecDepth 100000
set_option linter.unusedVariables false

namespace pl
/-- the cells of column k, padded -/
def colP (ps : Gs) (hs : List ByteArray) (k : Nat) : List ByteArray := (colL ps k).map (padF (wide (colL ps k)) (nth hs k))
theorem colP_len (ps : Gs) (hs : List ByteArray) (k : Nat) : (colP ps hs k).length = ps.length := by simp [colP, colL_len]
theorem colP_nth {ps : Gs} {hs : List ByteArray} {k i : Nat} (hi : i < ps.length) : nth (colP ps hs k) i = cellP ps hs i k := by
  have h1 : i < (colL ps k).length := by rw [colL_len]; exact hi
  rw [nth_eq (by rw [colP_len]; exact hi)]
  unfold colP
  rw [List.getElem_map, ← nth_eq h1, colL_nth hi]; rfl
theorem acr_row {ps : Gs} {hs : List ByteArray} {i m : Nat} (hi : i < ps.length) (hm : colsN ps = m) (h5 : m ≤ 5) : (acrB (colP ps hs) i m).take m = rowP ps hs i := by
  apply nth_ext
  · rw [List.length_take, acrB_len, rowP_len]; omega
  · intro k hk
    have hk2 : k < m := by rw [List.length_take] at hk; omega
    rw [nth_eq hk, List.getElem_take, ← nth_eq (by rw [acrB_len]; omega), acrB_nth (by omega)]
    unfold acrV rowP
    rw [if_pos hk2, colP_nth hi, drawL_nth _ (by omega)]
end pl

theorem block_strs {w : World} {g cap : Nat} {T : TypeId} {l : List ByteArray} (h : w.heap[g]? = some (.cells (l.map Value.string).toArray T (0, 0))) (hl : 0 < l.length) : RStrs w (.slice (some ⟨g, 0, none⟩) l.length cap) l := by
  refine .inr ⟨hl, g, 0, cap, rfl, (Array.getElem?_eq_some_iff.1 h).1, fun i hi => ?_⟩
  rw [Nat.zero_add, cell_of_row w g i _ _ _ h, List.getElem?_toArray, List.getElem?_map, List.getElem?_eq_getElem hi, nth_eq hi]
  rfl

set_option maxHeartbeats 8000000 in
theorem iRender_any (ps : pl.Gs) (hs : List ByteArray) (v u : Value) (w : World) (hr : RPs w v ps) (hu : RStrs w u hs) (hsm : Small ps) (hhl : hs.length ≤ 1048576) (hhs : ∀ i, i < hs.length → (nth hs i).size ≤ 1048576) :
    Calls Tryd.prog 20 #[v, u] w fun e w' => ∃ v', e = .returned v' ∧ OStrs w.heap.size w' v' (pl.rendR ps hs) ∧ Below w.heap.size w w' := by
  obtain ⟨i0, hi, hz0, hz1, hz2⟩ := info_parts infoS
  have hinfo : (Tryd.prog.info? 68).map (·.size) = some 5 := by kernel_rfl
  have HINF := Lib.hid hinfo
  clear hinfo
  have HS := Lib.hid hsm
  have HR := Lib.hid hr
  have HU := Lib.hid hu
  have HHS := Lib.hid hhs
  obtain ⟨m, HM⟩ : ∃ m, Hid (hs.length = m) := ⟨_, Lib.hid rfl⟩
  obtain ⟨n, HN⟩ : ∃ n, Hid (ps.length = n) := ⟨_, Lib.hid rfl⟩
  obtain ⟨a0, c0, rfl⟩ := hr.slice
  obtain ⟨a1, c1, rfl⟩ := hu.slice
  rw [HM.out] at HU hhl ⊢
  rw [HN.out] at HR ⊢
  clear hr hu hsm hhs
  go_enter Tryd.func20, Tryd.ntmps20
  go_wp2_with fail
  refine (iValidRows_any ps _ _ HR.out HS.out).mono ?_
  rintro e w1 ⟨rfl, hb1⟩
  have HB1 := Lib.hid hb1
  clear hb1
  cases hv : pl.vRows ps with
  | false =>
    have HC := Lib.hid (pl.rendR_no (pl.rendB_rows (hs := hs) hv))
    clear hv
    go_wp2_with fail
    go_ret
    exact ⟨_, rfl, by rw [HC.out]; exact OStrs.nil _ _, HB1.out⟩
  | true =>
    have HV := Lib.hid hv
    clear hv
    have hl6 : n ≤ 6 := by rw [← HN.out]; exact (pl.vRows_parts HV.out).1
    have hm5 := pl.vRows_cols HV.out
    have HR1 := Lib.hid (HR.out.below (Nat.le_refl _) HB1.out)
    have HU1 := Lib.hid (HU.out.below (Nat.le_refl _) HB1.out)
    go_wp2_with fail
    refine (iCountColumns_any ps _ _ HR1.out (by rw [HN.out]; omega)).mono ?_
    rintro e w' ⟨rfl, rfl⟩
    obtain ⟨q, HQ⟩ : ∃ q, Hid (pl.colsN ps = q) := ⟨_, Lib.hid rfl⟩
    rw [HQ.out] at hm5 ⊢
    by_cases hmq : m = q
    · have hne : ((m : Int) != (q : Int)) = false := by rw [hmq]; simp
      have HQM : Hid (pl.colsN ps = m) := Lib.hid (HQ.out.trans hmq.symm)
      have hm5' : m ≤ 5 := by omega
      subst hmq
      go_wp2_with fail
      refine (columnsOfS_any ps _ _ hs _ HR1.out HU1.out (by rw [HN.out]; omega) (by rw [HM.out]; exact hm5') (fun k hk => pl.rows_cut HV.out (by rw [HQM.out, ← HM.out]; exact hk))).mono ?_
      rintro e w2 ⟨D, cs0, rfl, hDg, hDw, hop, hcols, hb2⟩
      rw [HM.out] at hop hcols ⊢
      have HO2 := Lib.hid hop
      have HC2 := Lib.hid hcols
      have HB2 := Lib.hid (HB1.out.trans (hb2.mono HB1.out.size))
      have hS1 : w.heap.size ≤ w1.heap.size := HB1.out.size
      obtain ⟨G, HG⟩ : ∃ G, Hid (w1.heap.size = G) := ⟨_, Lib.hid rfl⟩
      rw [HG.out] at hDg HO2 hS1 ⊢
      clear hop hcols hb2 hne
      go_wp2_with fail
      go_loopw [26] (fun iv wr => ∃ (k : Nat) (cs : List Pr), k ≤ m ∧ iv = .int .i64 k ∧ Hid (∀ j, j < k → pl.howB (nth hs j) = true) ∧ Hid (OPr 65 G wr (.slice (some ⟨G, 0, none⟩) m m) m cs) ∧ Hid (Cols D wr cs m m (fun j => if j < k then pl.colP ps hs j else pl.colL ps j) (fun i => .string (nth hs i))) ∧ Hid (Below w.heap.size w wr) ∧ D ≤ wr.heap.size) (fun iv _ => m - (intOf iv).toNat)
      case atStart => exact ⟨0, cs0, Nat.zero_le _, rfl, Lib.hid (fun j h => absurd h (by omega)), HO2, Lib.hid ⟨HC2.out.len, fun i hi => by rw [if_neg (by omega)]; exact HC2.out.each i hi, HC2.out.snd⟩, HB2, hDw⟩
      case round =>
        obtain ⟨k, cs, hk, rfl, hok, HO, HC, HB, hDr⟩ := hrel
        by_cases hlt : k < m
        · have hkc : Hid (k < pl.colsN ps) := Lib.hid (by rw [HQM.out]; exact hlt)
          obtain ⟨ac, cc, p0, p1, pf, hrd, hod⟩ := cols_readS HO.out HC.out hlt (Nat.le_refl _)
          rw [if_neg (by omega)] at p0 hrd hod
          rw [pl.colL_len, HN.out] at p0 hrd hod
          have HRD := Lib.hid hrd
          have hhk := HHS.out k (by rw [HM.out]; exact hlt)
          obtain ⟨h, HX⟩ : ∃ h, Hid (nth hs k = h) := ⟨_, Lib.hid rfl⟩
          rw [HX.out] at p1 hhk
          have P0 := Lib.hid p0
          have P1 := Lib.hid p1
          obtain ⟨hl, hrr, hmm, hhow⟩ : ∃ l r m, pl.How h l r m := by
            rcases pl.how_cases h with ⟨_, hh⟩ | ⟨_, hh⟩ | ⟨_, hh⟩ | ⟨_, hh⟩ <;> exact ⟨_, _, _, hh⟩
          have HHB := Lib.hid (pl.howB_of hhow)
          have HHW := Lib.hid hhow
          have hDk : D ≤ wr.heap.size := hDr
          clear hrd hod hhow
          go_wp2_with fail
          refine (iisHow_any h _ _ _ HHW.out _).mono ?_
          rintro e w' ⟨rfl, rfl⟩
          cases hbv : (hl || hrr || hmm) with
          | false =>
            have HE := Lib.hid (pl.rendR_no (pl.rendB_how (ps := ps) (hs := hs) (k := k) (by rw [HM.out]; exact hlt) (by rw [HX.out, HHB.out]; exact hbv)))
            have HBE : Hid (Below w.heap.size w (wr.alloc (.cells #[.slice ac n cc, .string h] 65))) := Lib.hid (HB.out.alloc HB.out.size _)
            clear hbv
            go_wp2_with fail
            go_ret
            exact ⟨_, rfl, by rw [HE.out]; exact OStrs.nil _ _, HBE.out⟩
          | true =>
            have hok2 : Hid (∀ j, j < k + 1 → pl.howB (nth hs j) = true) := Lib.hid (fun j hj => by
              by_cases e : j = k
              · subst e; rw [HX.out, HHB.out]; exact hbv
              · exact hok.out j (by omega))
            clear hbv
            have hba : Below wr.heap.size wr (wr.alloc (.cells #[.slice ac n cc, .string h] 65)) := (Below.refl _ _).alloc (Nat.le_refl _) _
            have HBA := Lib.hid hba
            have hsa : (wr.alloc (.cells #[.slice ac n cc, .string h] 65)).heap.size = wr.heap.size + 1 := by simp
            clear hba p0 p1 pf
            go_wp2_with fail
            refine (padCells_any (pl.colL ps k) _ h _ (HRD.out.below (Nat.le_refl _) HBA.out) (by rw [pl.colL_len, HN.out]; omega) (fun i hi => by rw [pl.colL_len] at hi; rw [pl.colL_nth hi]; exact pl.colL_size HV.out hkc.out i hi) (pl.wide_col HV.out hkc.out) (by unfold maxLen; omega)).mono ?_
            rintro e w3 ⟨v3, rfl, ho3, hb3⟩
            have hbw : Below wr.heap.size wr w3 := HBA.out.trans (hb3.mono (by rw [hsa]; omega))
            have hoP : OStrs D w3 v3 (pl.colP ps hs k) := by
              have := ho3.mono (B' := D) (by rw [hsa]; omega)
              unfold pl.colP; rw [HX.out]; exact this
            have HO3 := Lib.hid (pr_below HO.out hbw)
            have HC3 := Lib.hid (HC.out.below hbw)
            obtain ⟨r0, r1, rf, _⟩ := pr_cells HO3.out hlt
            obtain ⟨av, cv, hv3⟩ := hoP.reads.slice
            rw [pl.colP_len, HN.out] at hv3
            subst hv3
            obtain ⟨hs0, hg0⟩ := pr_store0 HO3.out hlt (.slice av n cv)
            have HO4 := Lib.hid hs0
            have HC4 := Lib.hid ((HC3.out.touch hg0 hDg).put (f' := fun j => if j < k + 1 then pl.colP ps hs j else pl.colL ps j) hlt (Nat.le_refl _) (by rw [if_pos (by omega)]; exact ostrs_touch hoP hg0 hDg) (fun i hi hne => by
              by_cases e : i < k
              · rw [if_pos e, if_pos (by omega)]
              · rw [if_neg e, if_neg (by omega)]))
            have HB4 := Lib.hid ((HB.out.trans (hbw.mono HB.out.size)).setCell (p := ⟨G, k * 2, none⟩) hS1 (.slice av n cv))
            have hD4 : D ≤ (w3.setCell ⟨G, k * 2, none⟩ (.slice av n cv)).heap.size := by have := hbw.size; simp; omega
            clear ho3 hb3 hbw hoP hs0 hg0 hsa
            go_wp2_with fail
            go_roundw
            case rel => exact ⟨k + 1, _, by omega, by go_num, hok2, HO4, HC4, HB4, hD4⟩
            case measure => simp [intOf]; omega
        · obtain rfl : k = m := by omega
          have HRB : Hid (pl.rendB ps hs = true) := Lib.hid (pl.rendB_yes HV.out (by rw [HM.out, HQM.out]) (by rw [HM.out]; exact hok.out))
          have HE := Lib.hid (pl.rendR_yes HRB.out)
          have HLL := Lib.hid ((pl.rendL_len ps hs).trans HN.out)
          have HCF : Hid (Cols D wr cs k k (pl.colP ps hs) (fun i => .string (nth hs i))) := Lib.hid ⟨HC.out.len, fun i hi => by have := HC.out.each i hi; rw [if_pos hi] at this; exact this, HC.out.snd⟩
          have hSr : w.heap.size ≤ wr.heap.size := HB.out.size
          obtain ⟨wq, rfl⟩ : ∃ wq : World, wq = wr := ⟨_, rfl⟩
          go_wp2_with (at_make; refine wpList_make_full _ rfl _ _ 23 rfl wq.heap.size 9 i0 (.string ByteArray.empty) 1 Tryd.underlying23 hi hz0 hz1 _ _ _ _ n rfl rfl rfl rfl ?b1 ?b2 ?b3 ?_)
          case b1 => rw [hz2]; omega
          case b2 => unfold maxLen; omega
          case b3 => exact Nat.le_refl _
          intro w4 hown hgrow
          have hb4 : Below wq.heap.size wq w4 := (Below.refl _ _).grown hgrow (Nat.le_refl _) (fun g hg => by cases hg)
          have HO4 : Hid (w4.ownsRow wq.heap.size 9 1 (.slice (some ⟨wq.heap.size, 0, none⟩) n n) n ((List.replicate n ByteArray.empty).map Value.string)) := Lib.hid (by
            rw [toList_madeCells_one, ← List.map_replicate] at hown; exact hown)
          have HB4 := Lib.hid hb4
          clear hown hgrow hb4
          obtain ⟨F, HF⟩ : ∃ F, Hid (wq.heap.size = F) := ⟨_, Lib.hid rfl⟩
          go_wp2_with fail
          go_loopw [47] (fun iv wr => ∃ (i : Nat) (l' : List ByteArray), i ≤ n ∧ iv = .int .i64 i ∧ Hid (l'.length = n ∧ ∀ j, j < i → nth l' j = nth (pl.rendL ps hs) j) ∧ Hid (wr.ownsRow wq.heap.size 9 1 (.slice (some ⟨wq.heap.size, 0, none⟩) n n) n (l'.map Value.string)) ∧ Hid (Below wq.heap.size wq wr)) (fun iv _ => n - (intOf iv).toNat)
          case atStart => exact ⟨0, _, Nat.zero_le _, rfl, Lib.hid ⟨List.length_replicate, fun j h => absurd h (by omega)⟩, HO4, HB4⟩
          case round =>
            obtain ⟨i, l', hin, rfl, hinv, HOL, HBL⟩ := hrel
            by_cases hlt : i < n
            · have hil : Hid (i < ps.length) := Lib.hid (by rw [HN.out]; exact hlt)
              have hk1 := pl.vRows_pos HV.out (by rw [HN.out]; omega)
              rw [HQM.out] at hk1
              go_wp2_with fail
              refine (acrossS_any D G G k cs (pl.colP ps hs) hs i i rfl _ (pr_below HO.out HBL.out) (HCF.out.below HBL.out) hm5' (by omega) (fun j hj => by rw [pl.colP_len, HN.out]; omega)).mono ?_
              rintro e w5 ⟨rfl, hb5⟩
              have HB5 := Lib.hid (HBL.out.trans (hb5.mono HBL.out.size))
              have hw5 : wr.heap.size ≤ w5.heap.size := hb5.size
              have HB5w := Lib.hid hb5
              clear hb5
              have HBK := Lib.hid (heap_alloc_new w5 (.cells #[.string ⟨#[]⟩, .string ⟨#[]⟩, .string ⟨#[]⟩, .string ⟨#[]⟩, .string ⟨#[]⟩] 68))
              have HB6 : Hid (Below w5.heap.size w5 ((w5.alloc (.cells #[.string ⟨#[]⟩, .string ⟨#[]⟩, .string ⟨#[]⟩, .string ⟨#[]⟩, .string ⟨#[]⟩] 68)).setRow w5.heap.size (acrL (pl.colP ps hs) i k).toArray)) := Lib.hid (below_setRow ((Below.refl _ _).alloc (Nat.le_refl _) _) (Nat.le_refl _) _)
              have HK6 := Lib.hid (setRow_heap _ w5.heap.size _ (acrL (pl.colP ps hs) i k).toArray _ _ HBK.out)
              have HRW := Lib.hid (pl.acr_row (hs := hs) hil.out HQM.out hm5')
              have hsl := fun (w : World) (g : Nat) => slice_row w g k hm5'
              go_wp2_with (refine wpList_store_row rfl _ _ _ rfl w5.heap.size (acrL (pl.colP ps hs) i k).toArray rfl rfl 68 _ HBK.out HINF.out rfl (acrL_one _ _ _) ?_)
              refine (joinPre w5.heap.size 0 5 5 k (acrB (pl.colP ps hs) i k) ⟨#[32, 124, 32]⟩ _ (block_strs (cap := 5) (by rw [← acrL_map]; exact HK6.out) (by rw [acrB_len]; omega)) rfl (Nat.le_refl _) hm5' (by rw [acrB_len]; omega) (by rw [HRW.out]; exact Nat.le_trans (pl.lineP_le HRB.out hil.out) (by omega))).mono ?_
              rintro e w7 ⟨rfl, hb7⟩
              rw [HRW.out]
              obtain ⟨y, HY⟩ : ∃ y, Hid (pl.joinB (pl.rowP ps hs i) ⟨#[32, 124, 32]⟩ = y) := ⟨_, Lib.hid rfl⟩
              rw [HY.out]
              have hbw : Below wr.heap.size wr w7 := by
                have h1 : Below w5.heap.size w5 w7 := HB6.out.trans (hb7.mono HB6.out.size)
                exact HB5w.out.trans (h1.mono hw5)
              have HO7 := Lib.hid (own_keep HOL.out (fun b hb => hbw.block b (World.ownsRow.lt HOL.out b hb).2))
              have hc7 := own_cell HO7.out hinv.out.1 hlt
              have hf7 := World.ownsRow.frozenAt HO7.out i
              have HO8 := Lib.hid (own_store (j := i) HO7.out y).1
              have HB8 := Lib.hid ((HBL.out.trans (hbw.mono HBL.out.size)).setCell (p := ⟨wq.heap.size, i, none⟩) (Nat.le_refl _) (.string y))
              have hn2 : Hid ((l'.set i y).length = n ∧ ∀ j, j < i + 1 → nth (l'.set i y) j = nth (pl.rendL ps hs) j) := Lib.hid ⟨by rw [List.length_set]; exact hinv.out.1, fun j hj => by
                by_cases e : j = i
                · subst e
                  rw [nth_set_same (by rw [hinv.out.1]; exact hlt)]
                  unfold pl.rendL
                  rw [pl.drawL_nth _ hil.out, ← HY.out]; rfl
                · rw [nth_set_other (by rw [hinv.out.1]; omega) e]; exact hinv.out.2 j (by omega)⟩
              clear hb7 hbw
              go_wp2_with fail
              go_roundw
              case rel => exact ⟨i + 1, _, by omega, by go_num, hn2, HO8, HB8⟩
              case measure => simp [intOf]; omega
            · obtain rfl : i = n := by omega
              have he : Hid (l' = pl.rendL ps hs) := Lib.hid (nth_ext (by rw [hinv.out.1, HLL.out]) (fun j hj => hinv.out.2 j (by rw [← hinv.out.1]; exact hj)))
              have HBE := Lib.hid (HB.out.trans (HBL.out.mono hSr))
              have HOE : Hid (OStrs w.heap.size wr (.slice (some ⟨wq.heap.size, 0, none⟩) i i) (pl.rendR ps hs)) := Lib.hid (by
                rw [HE.out]
                unfold OStrs
                rw [HLL.out, ← he.out]
                exact own_mono HOL.out hSr)
              go_wp2_with fail
              go_ret
              exact ⟨_, rfl, HOE.out, HBE.out⟩
    · have hne : ((m : Int) == (q : Int)) = false := by simp; omega
      have hne2 : ((m : Int) != (q : Int)) = true := by simp; omega
      have HC := Lib.hid (pl.rendR_no (pl.rendB_len (ps := ps) (hs := hs) (by rw [HM.out, HQ.out]; exact hmq)))
      clear hmq
      go_wp2_with fail
      go_ret
      exact ⟨_, rfl, by rw [HC.out]; exact OStrs.nil _ _, HB1.out⟩
end Go.Proofs.YtpfheanpbbfpdaaDoor
