/- Contract: cutCells. -/
import Derived.Test.YtpfheanpbbfpdaaDoorPkE
import Derived.Test.YtpfheanpbbfpdaaDoorMark
import Derived.Test.YtpfheanpbbfpdaaDoorParts
import Derived.Test.YtpfheanpbbfpdaaDoorTabs
import Derived.Lib.OthersKept
namespace Go.Proofs.YtpfheanpbbfpdaaDoor
open Go.RowKit
set_option maxRecDepth 100000
set_option linter.unusedVariables false

namespace pl
def lowAll (s : ByteArray) : Prop := ∀ i (h : i < s.size), s[i].toNat < 128
/-- from k on s is still to be cut; the part that is read begins at f -/
def CutC (s : ByteArray) (f k : Nat) (q : Bool) (out : List ByteArray) : Prop :=
  k ≤ s.size ∧ ∃ done : List (List UInt8), cutQ false [] s.data.toList = done ++ cutQ q (seg s.data.toList f k) (s.data.toList.drop k) ∧ out = done.map bs
theorem CutC.start (s : ByteArray) : CutC s 0 0 false [] := ⟨Nat.zero_le _, [], by rw [seg_self]; rfl, rfl⟩
theorem drop_one_more {s : ByteArray} {k : Nat} (h : k < s.size) : s.data.toList.drop k = s[k] :: s.data.toList.drop (k + 1) :=
  List.drop_eq_getElem_cons (by rw [len_eq]; exact h)
theorem CutC.quote {s : ByteArray} {f k : Nat} {q : Bool} {out : List ByteArray} (h : CutC s f k q out) (hf : f ≤ k) (hk : k < s.size) (e : s[k] = 34) : CutC s f (k + 1) (!q) out := by
  obtain ⟨_, done, h1, h2⟩ := h
  refine ⟨hk, done, ?_, h2⟩
  rw [h1, drop_one_more hk, seg_succ hf hk, e, cutQ_quote]
theorem CutC.comma {s : ByteArray} {f k : Nat} {out : List ByteArray} (h : CutC s f k false out) (hk : k < s.size) (e : s[k] = 44) : CutC s (k + 1) (k + 1) false (out ++ [s.extract f k]) := by
  obtain ⟨_, done, h1, h2⟩ := h
  refine ⟨hk, done ++ [seg s.data.toList f k], ?_, ?_⟩
  · rw [h1, drop_one_more hk, e, cutQ_comma, seg_self, List.append_assoc]; rfl
  · rw [h2, List.map_append, ex_bs]; rfl
theorem CutC.byte {s : ByteArray} {f k : Nat} {q : Bool} {out : List ByteArray} (h : CutC s f k q out) (hf : f ≤ k) (hk : k < s.size) (e : ¬ s[k] = 34) (e2 : ¬ (s[k] = 44 ∧ q = false)) : CutC s f (k + 1) q out := by
  obtain ⟨_, done, h1, h2⟩ := h
  refine ⟨hk, done, ?_, h2⟩
  rw [h1, drop_one_more hk, seg_succ hf hk, cutQ_byte _ _ e e2]
theorem CutC.last {s : ByteArray} {f k : Nat} {q : Bool} {out : List ByteArray} (h : CutC s f k q out) (hk : ¬ k < s.size) : out ++ [s.extract f s.size] = (cutQ false [] s.data.toList).map bs := by
  obtain ⟨hle, done, h1, h2⟩ := h
  obtain rfl : k = s.size := by omega
  have e : s.data.toList.drop s.size = [] := List.drop_of_length_le (by rw [len_eq]; exact Nat.le_refl _)
  rw [h1, e, List.map_append, ← h2, ex_bs]; rfl
end pl
theorem OStrs.iterAt {C g pos' : Nat} {w : World} {v : Value} {l : List ByteArray} {s : ByteArray} (h : OStrs C w v l) (hg : g < C) : OStrs C (w.iterAt g s pos') v l :=
  own_keep h (fun b hb => Lib.iterAt_other w g b s pos' (by have := (World.ownsRow.lt h b hb).1; omega))

set_option maxHeartbeats 2000000 in
theorem cutCells_any (s : ByteArray) (w : World) (hs : s.size ≤ 1048576) :
    Calls Tryd.prog 67 #[.string s] w fun e w' => ∃ v l, e = .returned v ∧ OStrs w.heap.size w' v l ∧ 0 < l.length ∧ l.length ≤ s.size + 1 ∧ (∀ i, i < l.length → (nth l i).size ≤ s.size) ∧ (pl.lowAll s → l = (pl.cutQ false [] s.data.toList).map pl.bs) ∧ Below w.heap.size w w' := by
  obtain ⟨i0, hi, hz0, hz1, hz2⟩ := info_parts infoS
  obtain ⟨C, HC⟩ : ∃ C, Hid (w.heap.size + 1 = C) := ⟨_, Lib.hid rfl⟩
  have hgC : w.heap.size < C := by have := HC.out; omega
  go_enter Tryd.func67, Tryd.ntmps67
  go_wp2_with fail
  have hit0 : (w.iter s 0).heap[w.heap.size]? = some (.stringIter s 0) := by simpa using World.iter_heap w s 0
  have hb0 : Below w.heap.size w (w.iter s 0) := (Below.refl _ _).alloc (Nat.le_refl _) _
  have hC0 : C ≤ (w.iter s 0).heap.size := by rw [← HC.out]; simp [World.iter]
  go_loopw [3, 4, 5] (fun pv fv qv wr => ∃ (k f : Nat) (q : Bool) (l : List ByteArray), f ≤ k ∧ f ≤ s.size ∧ fv = .int .i64 f ∧ qv = .bool q ∧ Hid (OStrs C wr pv l) ∧ l.length ≤ f ∧ Hid (∀ i, i < l.length → (nth l i).size ≤ s.size) ∧ Hid (pl.lowAll s → pl.CutC s f k q l) ∧ wr.heap[w.heap.size]? = some (.stringIter s k) ∧ Hid (Below w.heap.size w wr) ∧ C ≤ wr.heap.size) (fun _ _ _ wr => s.size - wr.iterPos w.heap.size)
  case atStart => exact ⟨0, 0, false, [], Nat.le_refl _, Nat.zero_le _, rfl, rfl, Lib.hid (World.ownsRow_nil _ _ _ _), Nat.le_refl _, Lib.hid (fun i h => by simp at h), Lib.hid (fun _ => pl.CutC.start s), hit0, Lib.hid hb0, hC0⟩
  case round =>
    obtain ⟨k, f, q, l, hfk, hfs, rfl, rfl, HO, hlf, HSZ, HCU, hit, HB, hC⟩ := hrel
    clear hit0 hb0 hC0
    by_cases hlt : k < s.size
    · have hpos := Lib.hid (iterPos_of hit)
      by_cases hlow : (s[k]).toNat < 128
      · have hnx : ∀ ty, (Instr.next (.pointer (some ⟨w.heap.size, 0, none⟩)) true ty).run Tryd.prog wr = _ := fun ty => Lib.run_next_ascii_at wr w.heap.size s k ty hit hlt hlow
        have hit' := Lib.hid (Lib.iterAt_heap wr w.heap.size s k (k + 1) hit)
        have HO' := Lib.hid (HO.out.iterAt (s := s) (pos' := k + 1) hgC)
        have HB' := Lib.hid (Lib.below_iterAt HB.out (Nat.le_refl _) s (k + 1))
        have hC' : C ≤ (wr.iterAt w.heap.size s (k + 1)).heap.size := by rw [Lib.iterAt_size]; exact hC
        by_cases h34 : s[k] = 34
        · have h9 : (s[k].toNat : Int) = 34 := by rw [h34]; rfl
          have HN : Hid (pl.lowAll s → pl.CutC s f (k + 1) (!q) l) := Lib.hid (fun h => (HCU.out h).quote hfk hlt h34)
          clear h34 hit
          cases q with
          | true =>
            go_wp2_with fail
            go_roundw
            case rel => exact ⟨k + 1, f, false, l, by omega, hfs, rfl, rfl, HO', hlf, HSZ, HN, hit'.out, HB', hC'⟩
            case measure => rw [hpos.out, iterPos_of hit'.out]; omega
          | false =>
            go_wp2_with fail
            go_roundw
            case rel => exact ⟨k + 1, f, true, l, by omega, hfs, rfl, rfl, HO', hlf, HSZ, HN, hit'.out, HB', hC'⟩
            case measure => rw [hpos.out, iterPos_of hit'.out]; omega
        · have h9 : ¬ (s[k].toNat : Int) = 34 := pl.byte_neN h34 rfl
          by_cases h44 : s[k] = 44
          · have h8 : (s[k].toNat : Int) = 44 := by rw [h44]; rfl
            cases q with
            | true =>
              have HN : Hid (pl.lowAll s → pl.CutC s f (k + 1) true l) := Lib.hid (fun h => (HCU.out h).byte hfk hlt h34 (by simp))
              clear h34 h44 hit
              go_wp2_with fail
              go_roundw
              case rel => exact ⟨k + 1, f, true, l, by omega, hfs, rfl, rfl, HO', hlf, HSZ, HN, hit'.out, HB', hC'⟩
              case measure => rw [hpos.out, iterPos_of hit'.out]; omega
            | false =>
              have HN : Hid (pl.lowAll s → pl.CutC s (k + 1) (k + 1) false (l ++ [s.extract f k])) := Lib.hid (fun h => (HCU.out h).comma hlt h44)
              have hez : (s.extract f k).size ≤ s.size := by rw [ByteArray.size_extract]; omega
              clear h34 h44 hit
              obtain ⟨wi, HWI⟩ : ∃ u, Hid (wr.iterAt w.heap.size s (k + 1) = u) := ⟨_, Lib.hid rfl⟩
              go_wp2_with (at_builtin; refine wpList_append_own _ rfl _ _ 23 rfl C 9 i0 (.string ByteArray.empty) 1 16 Tryd.underlying23 hi hz0 hz1 hz2 rfl (by decide) _ _ _ rfl (World.ownsRow.alloc HO'.out _) ⟨_, 0, none⟩ 1 1 [.string (s.extract f k)] rfl rfl ?ka1 ?ka2 ?ka3 ?ka4 ?ka5 ?_)
              case ka1 => exact cell_one_new _ _ _
              case ka2 => intro u hu; simp at hu; subst hu; rfl
              case ka3 => unfold maxLen; omega
              case ka4 => omega
              case ka5 => have := hC'; simp at this ⊢; omega
              intro v5 w5 hown5 hgrow5 _
              have HQ5 := Lib.hid (OStrs.push1 hown5)
              have hbE : Below C (wr.iterAt w.heap.size s (k + 1)) w5 := ((Below.refl _ _).alloc hC' _).grown hgrow5 (by have := hC'; simp at this ⊢; omega) (fun b hb => (World.ownsRow.lt HO'.out b hb).1)
              have hit5 := (hbE.block w.heap.size hgC).trans hit'.out
              have HB5 := Lib.hid (HB'.out.trans (hbE.mono (by omega)))
              have hC5 : C ≤ w5.heap.size := Nat.le_trans hC' hbE.size
              have HSZ5 : Hid (∀ i, i < (l ++ [s.extract f k]).length → (nth (l ++ [s.extract f k]) i).size ≤ s.size) := Lib.hid (fun i hi => by
                rw [List.length_append, List.length_singleton] at hi
                rw [nth_eq (by rw [List.length_append, List.length_singleton]; exact hi)]
                rcases Nat.lt_or_ge i l.length with h | h
                · rw [List.getElem_append_left h]; have := HSZ.out i h; rw [nth_eq h] at this; exact this
                · rw [List.getElem_append_right h]; simpa using hez)
              clear hown5 hgrow5 hbE
              go_wp2_with fail
              go_roundw
              case rel => exact ⟨k + 1, k + 1, false, _, Nat.le_refl _, by omega, by go_num, rfl, HQ5, by rw [List.length_append, List.length_singleton]; omega, HSZ5, HN, hit5, HB5, hC5⟩
              case measure => rw [hpos.out, iterPos_of hit5]; omega
          · have h8 : ¬ (s[k].toNat : Int) = 44 := pl.byte_neN h44 rfl
            have HN : Hid (pl.lowAll s → pl.CutC s f (k + 1) q l) := Lib.hid (fun h => (HCU.out h).byte hfk hlt h34 (fun e => h44 e.1))
            clear h34 h44 hit
            go_wp2_with fail
            go_roundw
            case rel => exact ⟨k + 1, f, q, l, by omega, hfs, rfl, rfl, HO', hlf, HSZ, HN, hit'.out, HB', hC'⟩
            case measure => rw [hpos.out, iterPos_of hit'.out]; omega
      · have hnx : ∀ ty, (Instr.next (.pointer (some ⟨w.heap.size, 0, none⟩)) true ty).run Tryd.prog wr = _ := fun ty => Lib.run_next_any_at wr w.heap.size s k ty hit hlt
        have hh := decode_high s k hlt (by omega)
        obtain ⟨r, HR⟩ : ∃ r, Hid ((Utf8.decode s k).1 = r) := ⟨_, Lib.hid rfl⟩
        obtain ⟨d, HD⟩ : ∃ d, Hid ((Utf8.decode s k).2 = d) := ⟨_, Lib.hid rfl⟩
        rw [HR.out, HD.out] at hnx hh
        have hit' := Lib.hid (Lib.iterAt_heap wr w.heap.size s k (k + d) hit)
        have HO' := Lib.hid (HO.out.iterAt (s := s) (pos' := k + d) hgC)
        have HB' := Lib.hid (Lib.below_iterAt HB.out (Nat.le_refl _) s (k + d))
        have hC' : C ≤ (wr.iterAt w.heap.size s (k + d)).heap.size := by rw [Lib.iterAt_size]; exact hC
        have h9 : ¬ (r : Int) = 34 := by omega
        have h8 : ¬ (r : Int) = 44 := by omega
        have HN : Hid (pl.lowAll s → pl.CutC s f (k + d) q l) := Lib.hid (fun h => absurd (h k hlt) hlow)
        clear hit hlow
        go_wp2_with fail
        go_roundw
        case rel => exact ⟨k + d, f, q, l, by omega, hfs, rfl, rfl, HO', hlf, HSZ, HN, hit'.out, HB', hC'⟩
        case measure => rw [hpos.out, iterPos_of hit'.out]; omega
    · have hnx : ∀ ty, (Instr.next (.pointer (some ⟨w.heap.size, 0, none⟩)) true ty).run Tryd.prog wr = _ := fun ty => Lib.run_next_end_at wr w.heap.size s k ty hit hlt
      have HN : Hid (pl.lowAll s → l ++ [s.extract f s.size] = (pl.cutQ false [] s.data.toList).map pl.bs) := Lib.hid (fun h => (HCU.out h).last hlt)
      have hez : (s.extract f s.size).size ≤ s.size := by rw [ByteArray.size_extract]; omega
      clear hit
      go_wp2_with (at_builtin; refine wpList_append_own _ rfl _ _ 23 rfl C 9 i0 (.string ByteArray.empty) 1 16 Tryd.underlying23 hi hz0 hz1 hz2 rfl (by decide) _ _ _ rfl (World.ownsRow.alloc HO.out _) ⟨_, 0, none⟩ 1 1 [.string (s.extract f s.size)] rfl rfl ?kb1 ?kb2 ?kb3 ?kb4 ?kb5 ?_)
      case kb1 => exact cell_one_new _ _ _
      case kb2 => intro u hu; simp at hu; subst hu; rfl
      case kb3 => unfold maxLen; omega
      case kb4 => omega
      case kb5 => have := hC; simp at this ⊢; omega
      intro v5 w5 hown5 hgrow5 _
      have HQ5 := Lib.hid (OStrs.push1 hown5)
      have hbE : Below C wr w5 := ((Below.refl _ _).alloc hC _).grown hgrow5 (by have := hC; simp at this ⊢; omega) (fun b hb => (World.ownsRow.lt HO.out b hb).1)
      have HB5 := Lib.hid (HB.out.trans (hbE.mono (by omega)))
      have HSZ5 : Hid (∀ i, i < (l ++ [s.extract f s.size]).length → (nth (l ++ [s.extract f s.size]) i).size ≤ s.size) := Lib.hid (fun i hi => by
        rw [List.length_append, List.length_singleton] at hi
        rw [nth_eq (by rw [List.length_append, List.length_singleton]; exact hi)]
        rcases Nat.lt_or_ge i l.length with h | h
        · rw [List.getElem_append_left h]; have := HSZ.out i h; rw [nth_eq h] at this; exact this
        · rw [List.getElem_append_right h]; simp)
      clear hown5 hgrow5 hbE
      go_wp2_with fail
      go_ret
      exact ⟨_, _, rfl, own_mono HQ5.out (by omega), by simp, by rw [List.length_append, List.length_singleton]; omega, HSZ5.out, HN.out, HB5.out⟩
end Go.Proofs.YtpfheanpbbfpdaaDoor
