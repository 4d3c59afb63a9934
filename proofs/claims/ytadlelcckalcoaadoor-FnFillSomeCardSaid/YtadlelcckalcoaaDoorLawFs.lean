/- The walk of FnFillSome. -/
import Derived.Test.YtadlelcckalcoaaDoorPlainFz
import Derived.Test.YtadlelcckalcoaaDoorDrawFf
import Derived.Test.YtadlelcckalcoaaDoorFillSs
import Derived.Test.YtadlelcckalcoaaDoorHoles
import Derived.Test.YtadlelcckalcoaaDoorMaxI
import Derived.BigQuiet
import Derived.Maps.AppendAt
namespace Go.Proofs.YtadlelcckalcoaaDoor
open Go.RowKit
set_option maxRecDepth 100000
set_option linter.unusedVariables false

theorem equalTexts_this (l : List ByteArray) (va vb : Value) (w : World) (hA : RStrs w va l) (hB : RStrs w vb l) (hl : l.length ≤ 2000000) :
    Calls Tryd.prog 17 #[va, vb] w fun e w' => e = .returned (.bool true) ∧ Below w.heap.size w w' :=
  (equalTexts_any l l va vb w hA hB hl).mono fun e w' ⟨h1, h2⟩ => ⟨by rw [h1]; simp, h2⟩
theorem pl.filter_len (p : ByteArray → Bool) (N : List ByteArray) (i : Nat) : ((N.take i).filter p).length ≤ N.length := by
  have h1 := List.length_filter_le p (N.take i)
  have h2 := List.length_take_le i N
  rw [List.length_take] at h1
  omega

theorem RStrs.kept {w w' : World} {v : Value} {l : List ByteArray} (h : RStrs w v l) (hs : w.heap.size ≤ w'.heap.size) (hk : ∀ b o n c, v = .slice (some ⟨b, o, none⟩) n c → 0 < n → w'.heap[b]? = w.heap[b]?) : RStrs w' v l := by
  rcases h with h | ⟨hp, b, off, cap, hv, hlt, hc⟩
  · exact .inl h
  · exact .inr ⟨hp, b, off, cap, hv, Nat.lt_of_lt_of_le hlt hs, fun i hi => (World.cell?_of_block (hk b off _ cap hv hp)).trans (hc i hi)⟩
/-- a slice that lies in a block between these -/
def Away (E D : Nat) (v : Value) : Prop := ∀ b o n c, v = .slice (some ⟨b, o, none⟩) n c → 0 < n → E < b ∧ b < D
theorem OStrs.away {B E : Nat} {w : World} {v : Value} {l : List ByteArray} (h : OStrs B w v l) (hE : E < B) : Away E w.heap.size v := by
  intro b o n c hv hn
  rcases h.2 with ⟨hn0, _⟩ | ⟨g, cap, cur, rfl, hb, hg, _⟩
  · rw [hv] at hn0; injection hn0 with e1 e2 e3; cases e1
  · injection hv with e1 e2 e3
    injection e1 with e1
    injection e1 with e1
    subst e1
    have := (Array.getElem?_eq_some_iff.1 hg).1
    omega

/-- what is left so far -/
structure LeftS (E D : Nat) (wa : World) (lv uv : Value) (L N : List ByteArray) (wr : World) : Prop where
  own : OStrs E wr lv L
  low : Below E wa wr
  at' : ∀ k, lv.ownBlock = some k → k = E ∨ D ≤ k
  uv : RStrs wr uv N
  size : D ≤ wr.heap.size
theorem LeftS.below {E D : Nat} {wa wr w' : World} {lv uv : Value} {L N : List ByteArray} (h : LeftS E D wa lv uv L N wr) (hE : E ≤ D) (hb : Below wr.heap.size wr w') : LeftS E D wa lv uv L N w' :=
  ⟨h.own.below (Nat.le_refl _) hb, h.low.trans (hb.mono (Nat.le_trans hE h.size)), h.at', h.uv.below (Nat.le_refl _) hb, Nat.le_trans h.size hb.size⟩
theorem LeftS.push {E D : Nat} {wa wr w' : World} {lv uv lv' : Value} {L N : List ByteArray} {x : ByteArray} {o : Obj} (h : LeftS E D wa lv uv L N wr) (hE : E < D) (ha : Away E D uv)
    (hown : w'.ownsRow E 9 1 lv' (L.length + 1) (L.map Value.string ++ [.string x])) (hg : (wr.alloc o).grownBy w' lv.ownBlock) (hat : lv'.ownBlock = lv.ownBlock ∨ lv'.ownBlock = some (wr.heap.size + 1)) : LeftS E D wa lv' uv (L ++ [x]) N w' := by
  have hs := h.size
  have hb1 : Below E wr (wr.alloc o) := (Below.refl _ _).alloc (by omega) _
  have hb2 : Below E (wr.alloc o) w' := (Below.refl _ _).grown hg (by simp; omega) (fun k hk => (World.ownsRow.lt h.own k hk).1)
  refine ⟨OStrs.push1 hown, h.low.trans (hb1.trans hb2), fun k hk => ?_, ?_, Nat.le_trans hs (Nat.le_trans (by simp) hg.size)⟩
  · rcases hat with e | e
    · exact h.at' k (by rw [← e]; exact hk)
    · rw [hk] at e; injection e with e
      right; omega
  · refine h.uv.kept (Nat.le_trans (by simp) hg.size) (fun b o2 n c hv hn => ?_)
    obtain ⟨h1, h2⟩ := ha b o2 n c hv hn
    have hlt : b < wr.heap.size := by omega
    rw [hg.block b (by simp; omega) (fun e => by rcases h.at' b e.symm with h3 | h3 <;> omega)]
    exact ((Below.refl wr.heap.size wr).alloc (Nat.le_refl _) o).block b hlt

def RdFs (N : List ByteArray) (fl : List pl.Pc) (n E D : Nat) (w : World) (uv : Value) (lv iv : Value) (wr : World) : Prop :=
  ∃ i : Nat, i ≤ n ∧ iv = .int .i64 i ∧ Hid (LeftS E D w lv uv ((N.take i).filter (pl.noFill fl)) N wr)
def RdFs2 (nm : ByteArray) (fl : List pl.Pc) (m E D : Nat) (w : World) (uv : Value) (lv : Value) (L N : List ByteArray) (bv kv : Value) (wr : World) : Prop :=
  ∃ (k : Nat) (b : Bool), k ≤ m ∧ kv = .int .i64 k ∧ bv = .bool b ∧ Hid (pl.metTo fl nm k = b) ∧ Hid (LeftS E D w lv uv L N wr)

set_option maxHeartbeats 16000000 in
theorem fnFillSome_walk (a : Option Addr) (len cap : Nat) (zs : List Int) (w : World) (hr : IsRow .u8 w a len cap zs) (hmx : MaxI w) :
    Calls Tryd.prog 7 #[.slice a len cap] w fun e w' => e = .returned (.bool true) ∧ Below w.heap.size w w' := by
  obtain ⟨i0, hi, hz0, hz1, hz2⟩ := info_parts infoS
  have hlen := row_len hr
  have HMX := Lib.hid hmx
  clear hmx
  by_cases hb : 1048576 < len
  · go_enter Tryd.func7, Tryd.ntmps7
    go_wp2
    go_ret
    exact ⟨rfl, Below.refl _ _⟩
  · go_enter Tryd.func7, Tryd.ntmps7
    go_wp2_with fail
    refine (dFillSome_any a len cap zs _ hr).mono ?_
    rintro e w1 ⟨s, v, fl, rfl, hs, hrf, hl, hf, hb1⟩
    have HB1 := Lib.hid hb1
    have HR1 := Lib.hid hrf
    have HZ : Hid (∀ i, i < fl.length → (pl.nthQ fl i).1.size ≤ 1048576 ∧ (pl.nthQ fl i).2.size ≤ 1048576) := Lib.hid (fun i hi => by have := hf i hi; omega)
    have HL : Hid (fl.length ≤ 4) := Lib.hid hl
    clear hb1 hrf hf hl
    go_wp2_with fail
    refine (iFillSome_any s fl v _ (by unfold maxLen; omega) (HMX.out.below (Nat.le_refl _) HB1.out) HR1.out (by have := HL.out; omega) HZ.out).mono ?_
    rintro e w2 ⟨hb2, o, ho, hres⟩
    have HO := Lib.hid ho
    have HB2 := Lib.hid (HB1.out.trans (hb2.mono HB1.out.size))
    have HR2 := Lib.hid (HR1.out.below (Nat.le_refl _) hb2)
    clear hb2 ho
    rcases hres with ⟨x, rfl, rfl⟩ | ⟨rfl, rfl⟩
    · go_wp2_with fail
      refine (sFillSome_any s fl v _ (by omega) HR2.out (by have := HL.out; omega) HZ.out).mono ?_
      rintro e w3 ⟨hb3, o3, ho3, hres⟩
      have HB3 := Lib.hid (HB2.out.trans (hb3.mono HB2.out.size))
      have HR3 := Lib.hid (HR2.out.below (Nat.le_refl _) hb3)
      obtain rfl : o3 = some x := pl.SomeIs.uniq ho3 HO.out
      clear hb3 ho3
      rcases hres with ⟨y, hy, rfl⟩ | ⟨hy, _⟩
      · injection hy with hy
        subst hy
        have HO2 := Lib.hid (pl.some_two HO.out)
        have HH := Lib.hid (pl.some_holes HO.out)
        have hXs : (pl.bs x).size ≤ 120 := pl.validT_len (pl.someIs_form HO.out).2.1
        obtain ⟨X, HX⟩ : ∃ X, Hid (pl.bs x = X) := ⟨_, Lib.hid rfl⟩
        rw [HX.out] at HO2 HH hXs ⊢
        have hxx : (X.toList != X.toList) = false := by simp
        have hxy : (X.toList == X.toList) = true := by simp
        have h5 := Lib.hid (pl.holesR_len s)
        obtain ⟨N, HNN⟩ : ∃ N, Hid (pl.holesR s = N) := ⟨_, Lib.hid rfl⟩
        rw [HNN.out] at h5 HH
        go_wp2_with fail
        have HQ0 : Hid (OStrs w3.heap.size (w3.alloc (.cells #[] 9)) (.slice (some ⟨w3.heap.size, 0, none⟩) 0 0) []) := Lib.hid (World.ownsRow_made _ _ _ (Nat.le_refl _) (by unfold maxLen; omega) rfl)
        have HBA : Hid (Below w3.heap.size w3 (w3.alloc (.cells #[] 9))) := Lib.hid ((Below.refl _ _).alloc (Nat.le_refl _) _)
        obtain ⟨wa, HWA⟩ : ∃ u, Hid (w3.alloc (.cells #[] 9) = u) := ⟨_, Lib.hid rfl⟩
        rw [HWA.out] at HQ0 HBA ⊢
        obtain ⟨E, HEE⟩ : ∃ E, Hid (w3.heap.size = E) := ⟨_, Lib.hid rfl⟩
        rw [HEE.out] at HQ0 HBA ⊢
        have HRa := Lib.hid (HR3.out.below (Nat.le_of_eq HEE.out) HBA.out)
        have HBa : Hid (Below w.heap.size w wa) := Lib.hid (HB3.out.trans (HBA.out.mono (by rw [← HEE.out]; exact HB3.out.size)))
        have hwE : Hid (w.heap.size ≤ E) := Lib.hid (by rw [← HEE.out]; exact HB3.out.size)
        have hEa : E < wa.heap.size := by rw [← HWA.out, ← HEE.out]; simp
        clear HR1 HR2 HB1 HB2 HB3
        refine (iHolesOf_any s _ (by unfold maxLen; omega) (HMX.out.below (Nat.le_refl _) HBa.out)).mono ?_
        rintro e w4 ⟨u, rfl, hu, hb4⟩
        rw [HNN.out] at hu
        have HAW := Lib.hid (hu.away hEa)
        have hLE : LeftS E w4.heap.size wa (.slice (some ⟨E, 0, none⟩) 0 0) u ((N.take 0).filter (pl.noFill fl)) N w4 :=
          ⟨HQ0.out.below (Nat.le_refl _) hb4, hb4.mono (Nat.le_of_lt hEa), fun k hk => .inl (by injection hk with hk; exact hk.symm), hu.reads, Nat.le_refl _⟩
        have HLE := Lib.hid hLE
        have hE4 : E < w4.heap.size := Nat.lt_of_lt_of_le hEa hb4.size
        have HU := Lib.hid hu.reads
        clear hb4 hu HQ0 hLE
        obtain ⟨D, HD⟩ : ∃ D, Hid (w4.heap.size = D) := ⟨_, Lib.hid rfl⟩
        rw [HD.out] at HLE HAW hE4
        obtain ⟨au, cu, hue⟩ := HU.out.slice
        obtain ⟨av, cv, hve⟩ := HR3.out.slice
        subst hue
        subst hve
        obtain ⟨n, HN⟩ : ∃ n, Hid (n = N.length) := ⟨_, Lib.hid rfl⟩
        obtain ⟨m, HM⟩ : ∃ m, Hid (m = fl.length) := ⟨_, Lib.hid rfl⟩
        have hn5 : n ≤ 5 := by rw [HN.out]; exact h5.out
        have hm4 : m ≤ 4 := by rw [HM.out]; exact HL.out
        rw [← HN.out] at HLE HAW ⊢
        rw [← HM.out] at HR3 ⊢
        clear HRa
        clear HU
        go_wp2_with fail
        go_loopw [9, 11] (fun lv iv wr => RdFs N fl n E D wa (.slice au n cu) lv iv wr) (fun _ iv _ => n - (intOf iv).toNat)
        case atStart => exact ⟨0, Nat.zero_le _, rfl, HLE⟩
        case round =>
          obtain ⟨i, hi2, rfl, HI⟩ := hrel
          by_cases hlt : i < n
          · have HIN : Hid (i < N.length) := Lib.hid (by rw [← HN.out]; exact hlt)
            obtain ⟨L, HLL⟩ : ∃ L, Hid ((N.take i).filter (pl.noFill fl) = L) := ⟨_, Lib.hid rfl⟩
            have HLn : Hid (L.length ≤ 5) := Lib.hid (by rw [← HLL.out]; have := pl.filter_len (pl.noFill fl) N i; have := h5.out; omega)
            have HNX := Lib.hid (pl.filter_next (p := pl.noFill fl) HIN.out)
            rw [HLL.out] at HI HNX
            obtain ⟨nm, HNM⟩ : ∃ nm, Hid (nth N i = nm) := ⟨_, Lib.hid rfl⟩
            rw [HNM.out] at HNX
            go_wp2_with fail
            obtain ⟨w0, HW0⟩ : ∃ w0, Hid (wr = w0) := ⟨_, Lib.hid rfl⟩
            rw [HW0.out] at HI ⊢
            go_loopw [12, 13] (fun bv kv wr => RdFs2 nm fl m E D wa (.slice au n cu) u9 L N bv kv wr) (fun _ kv _ => m - (intOf kv).toNat)
            case atStart => exact ⟨0, false, Nat.zero_le _, rfl, rfl, Lib.hid (pl.metTo_zero fl nm), HI⟩
            case round =>
              obtain ⟨k, b, hk, rfl, rfl, HMT, HK⟩ := hrel
              obtain ⟨b1, o1, rfl, hcn⟩ := HK.out.uv.at HN.out (Below.refl _ _) hlt
              rw [HNM.out] at hcn
              by_cases hkm : k < m
              · have HKF : Hid (k < fl.length) := Lib.hid (by rw [← HM.out]; exact hkm)
                have hBW : Below w3.heap.size w3 wr := by rw [HEE.out]; exact HBA.out.trans HK.out.low
                obtain ⟨b2, o2, rfl, _, hcf, _⟩ := HR3.out.at HM.out hBW hkm
                have hms := pl.metTo_succ (n := nm) HKF.out
                obtain ⟨fn, HFN⟩ : ∃ fn, Hid ((pl.nthQ fl k).1 = fn) := ⟨_, Lib.hid rfl⟩
                rw [HFN.out] at hcf hms
                rw [HMT.out] at hms
                clear hBW
                cases b with
                | true =>
                  have HMS : Hid (pl.metTo fl nm (k + 1) = true) := Lib.hid (by rw [hms]; rfl)
                  clear hms
                  go_wp2_with fail
                  go_quiet (fail)
                  have HK2 := Lib.hid (HK.out.below (Nat.le_of_lt hE4) (w' := wr.drewN nq) below_drewN)
                  go_wp2
                  go_roundw
                  case rel => exact ⟨k + 1, true, by omega, by go_num, rfl, HMS, HK2⟩
                  case measure => simp [intOf]; omega
                | false =>
                  by_cases e : fn = nm
                  · have HMS : Hid (pl.metTo fl nm (k + 1) = true) := Lib.hid (by rw [hms]; simp [e])
                    clear hms
                    subst e
                    have hbe : (fn.toList == fn.toList) = true := by simp
                    go_wp2_with fail
                    go_quiet (fail)
                    have HK2 := Lib.hid (HK.out.below (Nat.le_of_lt hE4) (w' := wr.drewN nq) below_drewN)
                    go_wp2
                    go_roundw
                    case rel => exact ⟨k + 1, true, by omega, by go_num, rfl, HMS, HK2⟩
                    case measure => simp [intOf]; omega
                  · have HMS : Hid (pl.metTo fl nm (k + 1) = false) := Lib.hid (by rw [hms]; simp [e])
                    clear hms
                    have hbe := toList_ne e
                    clear e
                    go_wp2_with fail
                    go_quiet (fail)
                    have HK2 := Lib.hid (HK.out.below (Nat.le_of_lt hE4) (w' := wr.drewN nq) below_drewN)
                    go_wp2
                    go_roundw
                    case rel => exact ⟨k + 1, false, by omega, by go_num, rfl, HMS, HK2⟩
                    case measure => simp [intOf]; omega
              · obtain rfl : k = m := by omega
                have HNF : Hid (pl.noFill fl nm = !b) := Lib.hid (by rw [pl.metTo_all, ← HM.out, HMT.out])
                cases b with
                | true =>
                  have HNX2 : Hid ((N.take (i + 1)).filter (pl.noFill fl) = L) := Lib.hid (by rw [HNX.out, if_neg (by rw [HNF.out]; simp)])
                  rw [← HNX2.out] at HK
                  go_wp2_with fail
                  go_roundw
                  case rel => exact ⟨i + 1, by omega, by go_num, HK⟩
                  case measure => simp [intOf]; omega
                | false =>
                  have HNX2 : Hid ((N.take (i + 1)).filter (pl.noFill fl) = L ++ [nm]) := Lib.hid (by rw [HNX.out, if_pos (by rw [HNF.out]; rfl)])
                  have hEw : E ≤ wr.heap.size := Nat.le_trans (Nat.le_of_lt hE4) HK.out.size
                  go_wp2_with (at_builtin; refine wpList_append_own_at _ rfl _ _ 29 rfl E 9 i0 (.string ByteArray.empty) 1 16 Tryd.underlying29 hi hz0 hz1 hz2 rfl (by decide) _ _ _ rfl (World.ownsRow.alloc HK.out.own _) ⟨wr.heap.size, 0, none⟩ 1 1 [.string nm] rfl rfl (cell_one_new _ _ _) (by intro u hu; simp at hu; subst hu; rfl) (by have := HLn.out; unfold maxLen; omega) (by have := HLn.out; omega) (by simp; omega) ?_)
                  intro v8 w8 hown8 hgrow8 _ hat8
                  have HK8 := Lib.hid (HK.out.push hE4 HAW.out hown8 hgrow8 hat8)
                  rw [← HNX2.out] at HK8
                  clear hown8 hgrow8 hat8
                  go_wp2
                  go_roundw
                  case rel => exact ⟨i + 1, by omega, by go_num, HK8⟩
                  case measure => simp [intOf]; omega
          · obtain rfl : i = n := by omega
            have HE2 : Hid ((N.take i).filter (pl.noFill fl) = N.filter (pl.noFill fl)) := Lib.hid (by rw [HN.out, List.take_length])
            rw [HE2.out, ← HH.out] at HI
            have HBr : Hid (Below w.heap.size w wr) := Lib.hid (HBa.out.trans (HI.out.low.mono hwE.out))
            have hBW : Below w3.heap.size w3 wr := by rw [HEE.out]; exact HBA.out.trans HI.out.low
            have HRr := Lib.hid (HR3.out.below (Nat.le_refl _) hBW)
            have HLr := Lib.hid HI.out.own.reads
            have HXL := Lib.hid (pl.holesR_len X)
            clear hBW
            go_wp2_with fail
            refine (iFillSome_any X fl _ _ (by unfold maxLen; omega) (HMX.out.below (Nat.le_refl _) HBr.out) HRr.out (by rw [← HM.out]; omega) HZ.out).mono ?_
            rintro e w5 ⟨hb5, o5, ho5, hres⟩
            have HB5 := Lib.hid (HBr.out.trans (hb5.mono HBr.out.size))
            have HL5 := Lib.hid (HLr.out.below (Nat.le_refl _) hb5)
            obtain rfl : o5 = some x := pl.SomeIs.uniq ho5 HO2.out
            clear hb5 ho5
            rcases hres with ⟨z, hz, rfl⟩ | ⟨hz, _⟩
            · injection hz with hz
              subst hz
              rw [HX.out]
              go_wp2_with fail
              refine (iHolesOf_any X _ (by unfold maxLen; omega) (HMX.out.below (Nat.le_refl _) HB5.out)).mono ?_
              rintro e w6 ⟨u6, rfl, hu6, hb6⟩
              have HU6 := Lib.hid hu6.reads
              have HB6 := Lib.hid (HB5.out.trans (hb6.mono HB5.out.size))
              have HL6 := Lib.hid (HL5.out.below (Nat.le_refl _) hb6)
              clear hb6 hu6
              go_wp2_with fail
              refine (equalTexts_this _ _ _ _ HU6.out HL6.out (by have := HXL.out; omega)).mono ?_
              rintro e w7 ⟨rfl, hb7⟩
              have HB7 := Lib.hid (HB6.out.trans (hb7.mono HB6.out.size))
              clear hb7
              go_wp2_with fail
              go_ret
              exact ⟨rfl, HB7.out⟩
            · cases hz
      · cases hy
    · go_wp2_with fail
      refine (sFillSome_any s fl v _ (by omega) HR2.out (by have := HL.out; omega) HZ.out).mono ?_
      rintro e w3 ⟨hb3, o3, ho3, hres⟩
      have HB3 := Lib.hid (HB2.out.trans (hb3.mono HB2.out.size))
      obtain rfl : o3 = none := pl.SomeIs.uniq ho3 HO.out
      clear hb3 ho3
      rcases hres with ⟨y, hy, _⟩ | ⟨_, rfl⟩
      · cases hy
      · go_wp2_with fail
        go_ret
        exact ⟨rfl, HB3.out⟩
end Go.Proofs.YtadlelcckalcoaaDoor
