/- Contracts: readForm, namesOf. -/
import Derived.Test.YtadlelcckalcoaaPieces
import Derived.Test.YtadlelcckalcoaaPkB
namespace Go.Proofs.Ytadlelcckalcoaa
open Go.RowKit
set_option maxRecDepth 100000
set_option linter.unusedVariables false

def ReadPost (s : ByteArray) (w : World) (e : Ending) (w' : World) : Prop :=
  Below w.heap.size w w' ∧ ((∃ m, e = .returned (.tuple #[.slice none 0 0, .iface 119 (.string m)]) ∧ pl.formT s.data.toList = none) ∨ (∃ v ps, e = .returned (.tuple #[v, .nilIface]) ∧ pl.formT s.data.toList = some (pl.flatP ps) ∧ OPc w.heap.size w' v ps ∧ pl.PcsOk ps ∧ ps.length ≤ 120))

def RdForm (s : ByteArray) (B : Nat) (w : World) (sv pv : Value) (wr : World) : Prop :=
  ∃ (r : ByteArray) (ps : List pl.Pc), sv = .string r ∧ Hid (pl.Reads s r ps) ∧ Hid (OPc B wr pv ps) ∧ Hid (Below B w wr)

set_option maxHeartbeats 4000000 in
theorem readForm_any (s : ByteArray) (w : World) (hs : s.size ≤ maxLen) (hm : MaxI w) :
    Calls Try.prog 58 #[.string s] w (ReadPost s w) := by
  obtain ⟨i0, hi, hz0, hz1, hz2⟩ := info_parts infoPc
  have HM := Lib.hid hm
  clear hm
  go_enter Try.func58, Try.ntmps58
  go_wp2_with fail
  refine (iValidText_any s _ hs).mono ?_
  rintro e w1 ⟨rfl, hb1⟩
  have HB1 := Lib.hid hb1
  clear hb1
  cases hv : pl.validT s.data.toList with
  | false =>
    have HE := Lib.hid (pl.formT_text hv)
    clear hv
    go_wp2_with fail
    go_ret2
    exact ⟨HB1.out, .inl ⟨_, rfl, HE.out⟩⟩
  | true =>
    have HV := Lib.hid hv
    have h120 := pl.validT_size hv
    clear hv
    go_wp2_with fail
    go_loopw [0, 4] (fun sv pv wr => RdForm s w.heap.size w sv pv wr) (fun sv _ _ => match sv with | .string r => r.size | _ => 0)
    case atStart => exact ⟨s, [], rfl, Lib.hid (pl.Reads.start HV.out), Lib.hid (OPc.nil _ _), HB1⟩
    case round =>
      obtain ⟨r, ps, rfl, HR, HO, HB⟩ := hrel
      have hlen := HR.out.len
      by_cases h0 : r.size = 0
      · have he := pl.empty_of h0
        have HD := Lib.hid (HR.out.done h0)
        clear h0
        go_wp2_with fail
        refine (countHoles_any ps _ _ HO.out.reads (by omega)).mono ?_
        rintro e w2 ⟨rfl, hb2⟩
        have HO2 := Lib.hid (HO.out.below hb2)
        have HB2 := Lib.hid (HB.out.trans (hb2.mono HB.out.size))
        clear hb2
        obtain ⟨h, HH⟩ : ∃ h, Hid ((pl.holesT (pl.flatP ps)).length = h) := ⟨_, Lib.hid rfl⟩
        rw [HH.out]
        by_cases h5 : 5 < h
        · have h5i : (5 : Int) < (h : Int) := by omega
          have HE := Lib.hid (pl.formT_many HD.out (by rw [HH.out]; omega))
          clear h5
          go_wp2_with fail
          go_ret2
          exact ⟨HB2.out, .inl ⟨_, rfl, HE.out⟩⟩
        · have h5i : ¬ (5 : Int) < (h : Int) := by omega
          have HE := Lib.hid (pl.formT_some HV.out HD.out (by rw [HH.out]; omega))
          clear h5
          go_wp2_with fail
          go_ret2
          exact ⟨HB2.out, .inr ⟨_, ps, rfl, HE.out, HO2.out, HR.out.ok, by omega⟩⟩
      · have he := pl.nonempty_of h0
        go_wp2_with fail
        refine (cutPiece_any r _ HR.out.valid h0 (HM.out.below (Nat.le_refl _) HB.out)).mono ?_
        rintro e w2 ⟨hb2, hres⟩
        have HO2 := Lib.hid (HO.out.below hb2)
        have HB2 := Lib.hid (HB.out.trans (hb2.mono HB.out.size))
        clear hb2
        rcases hres with ⟨n, p, t, rfl, hcut⟩ | ⟨m, rfl, hnone⟩
        · have HN := Lib.hid (HR.out.next hcut)
          have hless := hcut.less
          have hBw : w.heap.size ≤ w2.heap.size := HB2.out.size
          clear hcut
          go_wp2_with (at_builtin; refine wpList_append_own _ rfl _ _ 76 rfl w.heap.size 97 i0 (.agg #[.string ByteArray.empty, .string ByteArray.empty]) 2 32 Try.underlying76 hi hz0 hz1 hz2 rfl (by decide) _ _ _ rfl (World.ownsRow.alloc (World.ownsRow.alloc HO2.out _) _) ⟨w2.heap.size + 1, 0, none⟩ 1 1 [.string n, .string p] rfl rfl (fun j u hu => by have h := cell_two_new (w2.alloc (.cells #[.string n, .string p] 97)) (.string n) (.string p) 97 j u hu; simpa using h) (by intro u hu; simp at hu; rcases hu with h | h <;> subst h <;> rfl) (by unfold maxLen; omega) (by omega) (by simp; omega) ?_)
          intro v5 w5 hown5 hgrow5 _
          have HO5 := Lib.hid (OPc.push hown5)
          have HB5 := Lib.hid (((HB2.out.alloc HB2.out.size _).alloc (by simp; omega) _).grown hgrow5 (by simp; omega) (fun g hg => (World.ownsRow.lt HO2.out g hg).1))
          clear hown5 hgrow5
          go_wp2
          go_roundw
          case rel => exact ⟨t, _, rfl, HN, HO5, HB5⟩
          case measure => simp; omega
        · have HE := Lib.hid (HR.out.fail hnone)
          clear hnone
          go_wp2_with fail
          go_ret2
          exact ⟨HB2.out.alloc HB2.out.size _, .inl ⟨_, rfl, HE.out⟩⟩
end Go.Proofs.Ytadlelcckalcoaa
