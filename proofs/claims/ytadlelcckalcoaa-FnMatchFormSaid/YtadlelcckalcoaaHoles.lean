/- Contracts: namesOf, hasText, HolesOf of both sides. -/
import Derived.Test.YtadlelcckalcoaaReadF
import Derived.Test.YtadlelcckalcoaaParts2
namespace Go.Proofs.Ytadlelcckalcoaa
open Go.RowKit
set_option maxRecDepth 100000
set_option linter.unusedVariables false

namespace pl
/-- HolesOf -/
def holesR (s : ByteArray) : List ByteArray := match formT s.data.toList with
  | some ts => (holesD ts).map bs
  | none => []
theorem holesR_no {s : ByteArray} (h : formT s.data.toList = none) : holesR s = [] := by unfold holesR; rw [h]
theorem holesR_yes {s : ByteArray} {ts : List Tok} (h : formT s.data.toList = some ts) : holesR s = (holesD ts).map bs := by unfold holesR; rw [h]
theorem holesR_len (s : ByteArray) : (holesR s).length ≤ 5 := by
  unfold holesR
  split
  · rename_i ts h
    have h5 := (formT_parts h).2.2
    have := ded_len (holesT ts) []
    rw [List.length_map]
    unfold holesD
    simp at this
    omega
  · simp
/-- the names of the model's list, each once, so far -/
def nmTo (N : List ByteArray) (k : Nat) : List Nm := ded [] ((N.take k).map (fun n => n.data.toList))
theorem nmTo_zero (N : List ByteArray) : nmTo N 0 = [] := rfl
theorem nmTo_step {N : List ByteArray} {k : Nat} (h : k < N.length) : nmTo N (k + 1) = ded (nmTo N k) [(nth N k).data.toList] := by
  unfold nmTo
  rw [List.take_succ_eq_append_getElem h, List.map_append, ded_append, nth_eq h]; rfl
theorem nmTo_old {N : List ByteArray} {k : Nat} (h : k < N.length) (hm : (nth N k).data.toList ∈ nmTo N k) : nmTo N (k + 1) = nmTo N k := by
  rw [nmTo_step h, ded_one_in hm]
theorem nmTo_new {N : List ByteArray} {k : Nat} (h : k < N.length) (hm : ¬ (nth N k).data.toList ∈ nmTo N k) : nmTo N (k + 1) = nmTo N k ++ [(nth N k).data.toList] := by
  rw [nmTo_step h, ded_one_new hm]
theorem nmTo_len {N : List ByteArray} {k : Nat} : (nmTo N k).length ≤ k := by
  have h1 := ded_len ((N.take k).map (fun n : ByteArray => n.data.toList)) []
  rw [List.length_map, List.length_take] at h1
  unfold nmTo
  have h2 : ([] : List Nm).length = 0 := rfl
  omega
theorem nmTo_all {T N : List ByteArray} (h : T.length = N.length + 1) : nmTo N N.length = holesD (toT T N) := by
  unfold nmTo holesD
  rw [List.take_length, toT_holes h]
theorem cont_yes {l : List ByteArray} {x : ByteArray} (h : x ∈ l) : Lib.containsS l x = true := (Lib.containsS_iff _ _).2 h
theorem cont_no {l : List ByteArray} {x : ByteArray} (h : ¬ x ∈ l) : Lib.containsS l x = false := by
  cases hc : Lib.containsS l x with
  | false => rfl
  | true => exact absurd ((Lib.containsS_iff _ _).1 hc) h
theorem map_push (l : List Nm) (x : ByteArray) : l.map bs ++ [x] = (l ++ [x.data.toList]).map bs := by
  rw [List.map_append, List.map_cons, List.map_nil, bs_self]
end pl

set_option maxHeartbeats 1000000 in
theorem hasText_any (l : List ByteArray) (v : Value) (x : ByteArray) (w : World) (hr : RStrs w v l) (hl : l.length ≤ 1048576) :
    Calls Try.prog 70 #[v, .string x] w fun e w' => e = .returned (.bool (Lib.containsS l x)) ∧ w' = w := by
  have HR := Lib.hid hr
  obtain ⟨a0, c0, rfl⟩ := hr.slice
  obtain ⟨n, HN⟩ : ∃ n, Hid (n = l.length) := ⟨_, Lib.hid rfl⟩
  rw [← HN.out] at HR hl ⊢
  clear hr
  go_enter Try.func70, Try.ntmps70
  go_wp2_with fail
  go_loop [5] (fun iv => ∃ i : Nat, i ≤ n ∧ iv = .int .i64 i ∧ Hid (¬ x ∈ l.take i)) (fun iv => n - (intOf iv).toNat)
  case atStart => exact ⟨0, Nat.zero_le _, rfl, Lib.hid (by simp)⟩
  case round =>
    obtain ⟨i, hi, rfl, HT⟩ := hrel
    by_cases hlt : i < n
    · have hil : i < l.length := by rw [← HN.out]; exact hlt
      obtain ⟨b, o, rfl, hc⟩ := HR.out.at HN.out (Below.refl _ _) hlt
      have hts : l.take (i + 1) = l.take i ++ [nth l i] := by rw [List.take_succ_eq_append_getElem hil, nth_eq hil]
      have hmem : nth l i ∈ l := by rw [nth_eq hil]; exact List.getElem_mem _
      have HTS := Lib.hid hts
      have HMEM := Lib.hid hmem
      obtain ⟨y, HY⟩ : ∃ y, Hid (nth l i = y) := ⟨_, Lib.hid rfl⟩
      rw [HY.out] at hc HTS HMEM
      clear hts hmem hil
      by_cases e : y = x
      · have hbe : (y.toList == x.toList) = true := by rw [e]; simp
        have HD : Hid (Lib.containsS l x = true) := Lib.hid (pl.cont_yes (by rw [← e]; exact HMEM.out))
        clear e
        go_wp2_with fail
        go_ret
        exact ⟨by rw [HD.out]; rfl, rfl⟩
      · have hbe : (y.toList == x.toList) = false := toList_ne e
        have HN2 : Hid (¬ x ∈ l.take (i + 1)) := Lib.hid (by
          rw [HTS.out, List.mem_append, List.mem_singleton]
          rintro (h | h)
          · exact HT.out h
          · exact e h.symm)
        clear e
        go_wp2
        go_round
        case rel => exact ⟨i + 1, by omega, by go_num, HN2⟩
        case measure => simp [intOf]; omega
    · obtain rfl : i = n := by omega
      have HD : Hid (Lib.containsS l x = false) := Lib.hid (pl.cont_no (by
        have := HT.out
        rw [HN.out, List.take_length] at this
        exact this))
      go_wp2_with fail
      go_ret
      exact ⟨by rw [HD.out]; rfl, rfl⟩

theorem contains_any (l : List ByteArray) (v : Value) (x : ByteArray) (w : World) (hr : RStrs w v l) (hl : l.length ≤ 1048576) :
    Calls Try.prog 85 #[v, .string x] w fun e w' => e = .returned (.bool (Lib.containsS l x)) ∧ w' = w := by
  rcases hr with ⟨rfl, a, cap, rfl⟩ | ⟨h0, b, o, cap, rfl, hlt, hc⟩
  · refine (Try.slices_Contains_string_empty a cap x w).mono ?_
    rintro e w' ⟨rfl, rfl⟩
    exact ⟨by rw [pl.cont_no (by simp)], rfl⟩
  · refine (Try.slices_Contains_string b o l.length cap l x w (Nat.le_refl _) (by omega) hc).mono ?_
    rintro e w' ⟨rfl, rfl⟩
    exact ⟨by rw [List.take_length], rfl⟩

def RdNames (ps : List pl.Pc) (n : Nat) (B : Nat) (w : World) (nv iv : Value) (wr : World) : Prop :=
  ∃ i : Nat, i ≤ n ∧ iv = .int .i64 i ∧ Hid (OStrs B wr nv ((pl.namesTo ps i).map pl.bs)) ∧ Hid (Below B w wr)

set_option maxHeartbeats 2000000 in
theorem namesOf_any (ps : List pl.Pc) (v : Value) (w : World) (hr : RPc w v ps) (hl : ps.length ≤ 1000) :
    Calls Try.prog 61 #[v] w fun e w' => ∃ v', e = .returned v' ∧ OStrs w.heap.size w' v' ((pl.holesD (pl.flatP ps)).map pl.bs) ∧ Below w.heap.size w w' := by
  obtain ⟨i0, hi, hz0, hz1, hz2⟩ := info_parts infoS
  have HR := Lib.hid hr
  obtain ⟨a0, c0, rfl⟩ := hr.slice
  obtain ⟨n, HN⟩ : ∃ n, Hid (n = ps.length) := ⟨_, Lib.hid rfl⟩
  rw [← HN.out] at HR hl ⊢
  clear hr
  go_enter Try.func61, Try.ntmps61
  go_wp2_with fail
  go_loopw [3, 8] (fun nv iv wr => RdNames ps n w.heap.size w nv iv wr) (fun _ iv _ => n - (intOf iv).toNat)
  case atStart => exact ⟨0, Nat.zero_le _, rfl, Lib.hid (OStrs.nil _ _), Lib.hid (Below.refl _ _)⟩
  case round =>
    obtain ⟨i, hi2, rfl, HO, HB⟩ := hrel
    have hnl : Hid ((pl.namesTo ps i).length ≤ n) := Lib.hid (by have := pl.namesTo_len (ps := ps) (k := i) (by rw [← HN.out]; exact hi2); omega)
    by_cases hlt : i < n
    · obtain ⟨b, o, rfl, hbw, c1, c2⟩ := HR.out.at HN.out HB.out hlt
      have hil : i < ps.length := by rw [← HN.out]; exact hlt
      have HPL := Lib.hid (fun hn => pl.namesTo_plain (ps := ps) hil hn)
      have HOL := Lib.hid (fun hn hm => pl.namesTo_old (ps := ps) hil hn hm)
      have HNW := Lib.hid (fun hn hm => pl.namesTo_new (ps := ps) hil hn hm)
      obtain ⟨nm, HNM⟩ : ∃ nm, Hid ((pl.nthQ ps i).1 = nm) := ⟨_, Lib.hid rfl⟩
      obtain ⟨pt, HPT⟩ : ∃ pt, Hid ((pl.nthQ ps i).2 = pt) := ⟨_, Lib.hid rfl⟩
      rw [HNM.out] at c1 HPL HOL HNW
      rw [HPT.out] at c2
      clear hil
      go_wp2_with fail
      refine (isHole_any nm pt _).mono ?_
      rintro e w2 ⟨rfl, hb2⟩
      have hA : Below wr.heap.size wr (wr.alloc (.cells #[.string nm, .string pt] 97)) := (Below.refl _ _).alloc (Nat.le_refl _) _
      have hbw2 : Below wr.heap.size wr w2 := hA.trans (hb2.mono hA.size)
      have hcell : w2.cell? ⟨wr.heap.size, 0, none⟩ = some (.string nm) := (hb2.cell (p := ⟨wr.heap.size, 0, none⟩) (by simp)).trans (by simp)
      have HB2 := Lib.hid (HB.out.trans (hbw2.mono HB.out.size))
      have HO2 := Lib.hid (HO.out.below (Nat.le_refl _) hbw2)
      have hsz2 : w.heap.size ≤ w2.heap.size := HB2.out.size
      clear hb2 hA hbw2
      by_cases hz : nm.size = 0
      · have hd : decide (¬ nm.size = 0) = false := decide_eq_false (by omega)
        have HN2 := Lib.hid (HPL.out hz)
        rw [hd]
        clear hd hz
        go_wp2_with fail
        go_roundw
        case rel => exact ⟨i + 1, by omega, by go_num, Lib.hid (by rw [HN2.out]; exact HO2.out), HB2⟩
        case measure => simp [intOf]; omega
      · have hd : decide (¬ nm.size = 0) = true := decide_eq_true hz
        have HZ := Lib.hid hz
        rw [hd]
        clear hd hz
        obtain ⟨L, HL⟩ : ∃ L, Hid ((pl.namesTo ps i).map pl.bs = L) := ⟨_, Lib.hid rfl⟩
        rw [HL.out] at HO2
        have hll : Hid (L.length ≤ 1000) := Lib.hid (by rw [← HL.out, List.length_map]; have := hnl.out; omega)
        go_wp2_with fail
        refine (contains_any L _ nm _ HO2.out.reads (by have := hll.out; omega)).mono ?_
        rintro e w' ⟨rfl, rfl⟩
        by_cases hm : nm ∈ L
        · have hd : Lib.containsS L nm = true := pl.cont_yes hm
          have HN2 := Lib.hid (HOL.out HZ.out (pl.mem_bs.1 (by rw [HL.out]; exact hm)))
          rw [hd]
          clear hd hm
          go_wp2_with fail
          go_roundw
          case rel => exact ⟨i + 1, by omega, by go_num, Lib.hid (by rw [HN2.out, HL.out]; exact HO2.out), HB2⟩
          case measure => simp [intOf]; omega
        · have hd : Lib.containsS L nm = false := pl.cont_no hm
          have HN2 := Lib.hid (HNW.out HZ.out (fun h => hm (by rw [← HL.out]; exact pl.mem_bs.2 h)))
          rw [hd]
          clear hd hm
          go_wp2_with (at_builtin; refine wpList_append_own _ rfl _ _ 23 rfl w.heap.size 9 i0 (.string ByteArray.empty) 1 16 Try.underlying23 hi hz0 hz1 hz2 rfl (by decide) _ _ _ rfl (World.ownsRow.alloc HO2.out _) ⟨_, 0, none⟩ 1 1 [.string nm] rfl rfl (cell_one_new _ _ _) (by intro u hu; simp at hu; subst hu; rfl) (by have := hll.out; unfold maxLen; omega) (by have := hll.out; omega) (by simp; omega) ?_)
          intro v5 w5 hown5 hgrow5 _
          have HO5 := Lib.hid (OStrs.push1 hown5)
          rw [← HL.out, pl.map_push, ← HN2.out] at HO5
          have HB5 := Lib.hid ((HB2.out.alloc HB2.out.size _).grown hgrow5 (by simp; omega) (fun g hg => (World.ownsRow.lt HO2.out g hg).1))
          clear hown5 hgrow5
          go_wp2
          go_roundw
          case rel => exact ⟨i + 1, by omega, by go_num, HO5, HB5⟩
          case measure => simp [intOf]; omega
    · obtain rfl : i = n := by omega
      have HE := Lib.hid (pl.namesTo_all ps)
      rw [HN.out, HE.out] at HO
      go_wp2_with fail
      go_ret
      exact ⟨_, rfl, HO.out, HB.out⟩

theorem iHolesOf_any (s : ByteArray) (w : World) (hs : s.size ≤ maxLen) (hm : MaxI w) :
    Calls Try.prog 22 #[.string s] w fun e w' => ∃ v', e = .returned v' ∧ OStrs w.heap.size w' v' (pl.holesR s) ∧ Below w.heap.size w w' := by
  go_enter Try.func22, Try.ntmps22
  go_wp2_with fail
  refine (readForm_any s _ hs hm).mono ?_
  rintro e w1 ⟨hb1, hres⟩
  have HB1 := Lib.hid hb1
  clear hb1
  rcases hres with ⟨m, rfl, hno⟩ | ⟨v, ps, rfl, hyes, ho, hok, hl⟩
  · have HE := Lib.hid (pl.holesR_no hno)
    clear hno
    go_wp2_with fail
    go_ret
    exact ⟨_, rfl, by rw [HE.out]; exact OStrs.nil _ _, HB1.out⟩
  · have HE := Lib.hid (pl.holesR_yes hyes)
    have HO := Lib.hid ho
    clear hyes ho
    go_wp2_with fail
    refine (namesOf_any ps v _ HO.out.reads (by omega)).mono ?_
    rintro e w2 ⟨v', rfl, ho2, hb2⟩
    have HO2 := Lib.hid ho2
    have HB2 := Lib.hid (HB1.out.trans (hb2.mono HB1.out.size))
    clear hb2 ho2
    go_wp2_with fail
    go_ret
    exact ⟨_, rfl, by rw [HE.out]; exact own_mono HO2.out HB1.out.size, HB2.out⟩

def RdHol (N : List ByteArray) (n E : Nat) (w : World) (nv iv : Value) (wr : World) : Prop :=
  ∃ i : Nat, i ≤ n ∧ iv = .int .i64 i ∧ Hid (OStrs E wr nv ((pl.nmTo N i).map pl.bs)) ∧ Hid (Below E w wr)

set_option maxHeartbeats 2000000 in
theorem sHolesOf_any (s : ByteArray) (w : World) (hs : s.size ≤ 1048576) :
    Calls Try.prog 33 #[.string s] w fun e w' => ∃ v', e = .returned v' ∧ OStrs w.heap.size w' v' (pl.holesR s) ∧ Below w.heap.size w w' := by
  obtain ⟨i0, hi, hz0, hz1, hz2⟩ := info_parts infoS
  go_enter Try.func33, Try.ntmps33
  go_wp2_with fail
  refine (sparts_any s _ hs).mono ?_
  rintro e w1 ⟨hb1, hres⟩
  have HB1 := Lib.hid hb1
  clear hb1
  rcases hres with ⟨v, u, rfl, hno⟩ | ⟨v, u, T, N, rfl, hyes, hoT, hoN, hTl, h5, hnm, hts⟩
  · have HE := Lib.hid (pl.holesR_no hno)
    clear hno
    go_wp2_with fail
    go_ret
    exact ⟨_, rfl, by rw [HE.out]; exact OStrs.nil _ _, HB1.out⟩
  · have HE : Hid (pl.holesR s = (pl.nmTo N N.length).map pl.bs) := Lib.hid (by rw [pl.holesR_yes hyes, pl.nmTo_all hTl])
    have HRN := Lib.hid hoN.reads
    obtain ⟨au, cu, hvu⟩ := hoN.reads.slice
    obtain ⟨n, HN⟩ : ∃ n, Hid (n = N.length) := ⟨_, Lib.hid rfl⟩
    rw [← HN.out] at hvu h5 HE
    subst hvu
    clear hyes hoT hoN hTl hnm hts
    go_wp2_with fail
    have HH0 : Hid (OStrs w1.heap.size (w1.alloc (.cells #[] 9)) (.slice (some ⟨w1.heap.size, 0, none⟩) 0 0) []) := Lib.hid (World.ownsRow_made _ _ _ (Nat.le_refl _) (by unfold maxLen; omega) rfl)
    have HBA : Hid (Below w1.heap.size w1 (w1.alloc (.cells #[] 9))) := Lib.hid ((Below.refl _ _).alloc (Nat.le_refl _) _)
    obtain ⟨wa, HWA⟩ : ∃ x, Hid (w1.alloc (.cells #[] 9) = x) := ⟨_, Lib.hid rfl⟩
    rw [HWA.out] at HH0 HBA ⊢
    obtain ⟨E, HEE⟩ : ∃ E, Hid (w1.heap.size = E) := ⟨_, Lib.hid rfl⟩
    rw [HEE.out] at HH0 HBA ⊢
    go_loopw [6, 7] (fun nv iv wr => RdHol N n E w1 nv iv wr) (fun _ iv _ => n - (intOf iv).toNat)
    case atStart => exact ⟨0, Nat.zero_le _, rfl, HH0, HBA⟩
    case round =>
      obtain ⟨i, hi2, rfl, HO, HB⟩ := hrel
      have hnl : Hid ((pl.nmTo N i).length ≤ 5) := Lib.hid (by have := pl.nmTo_len (N := N) (k := i); omega)
      have hEw : E ≤ wr.heap.size := by have := HB.out.size; have := HEE.out; omega
      by_cases hlt : i < n
      · have hBw : Below w1.heap.size w1 wr := by rw [HEE.out]; exact HB.out
        obtain ⟨b, o, rfl, hc⟩ := HRN.out.at HN.out hBw hlt
        have hil : i < N.length := by rw [← HN.out]; exact hlt
        have HOL := Lib.hid (fun hm => pl.nmTo_old (N := N) hil hm)
        have HNW := Lib.hid (fun hm => pl.nmTo_new (N := N) hil hm)
        obtain ⟨nm, HNM⟩ : ∃ nm, Hid (nth N i = nm) := ⟨_, Lib.hid rfl⟩
        rw [HNM.out] at hc HOL HNW
        obtain ⟨L, HL⟩ : ∃ L, Hid ((pl.nmTo N i).map pl.bs = L) := ⟨_, Lib.hid rfl⟩
        rw [HL.out] at HO
        have hll : Hid (L.length ≤ 1000) := Lib.hid (by rw [← HL.out, List.length_map]; have := hnl.out; omega)
        clear hil hBw
        go_wp2_with fail
        refine (hasText_any L _ nm _ HO.out.reads (by have := hll.out; omega)).mono ?_
        rintro e w' ⟨rfl, rfl⟩
        by_cases hm : nm ∈ L
        · have hd : Lib.containsS L nm = true := pl.cont_yes hm
          have HN2 := Lib.hid (HOL.out (pl.mem_bs.1 (by rw [HL.out]; exact hm)))
          rw [hd]
          clear hd hm
          go_wp2_with fail
          go_roundw
          case rel => exact ⟨i + 1, by omega, by go_num, Lib.hid (by rw [HN2.out, HL.out]; exact HO.out), HB⟩
          case measure => simp [intOf]; omega
        · have hd : Lib.containsS L nm = false := pl.cont_no hm
          have HN2 := Lib.hid (HNW.out (fun h => hm (by rw [← HL.out]; exact pl.mem_bs.2 h)))
          rw [hd]
          clear hd hm
          go_wp2_with (at_builtin; refine wpList_append_own _ rfl _ _ 23 rfl E 9 i0 (.string ByteArray.empty) 1 16 Try.underlying23 hi hz0 hz1 hz2 rfl (by decide) _ _ _ rfl (World.ownsRow.alloc HO.out _) ⟨_, 0, none⟩ 1 1 [.string nm] rfl rfl (cell_one_new _ _ _) (by intro u hu; simp at hu; subst hu; rfl) (by have := hll.out; unfold maxLen; omega) (by have := hll.out; omega) (by simp; omega) ?_)
          intro v5 w5 hown5 hgrow5 _
          have HO5 := Lib.hid (OStrs.push1 hown5)
          rw [← HL.out, pl.map_push, ← HN2.out] at HO5
          have HB5 := Lib.hid ((HB.out.alloc hEw _).grown hgrow5 (by simp; omega) (fun g hg => (World.ownsRow.lt HO.out g hg).1))
          clear hown5 hgrow5
          go_wp2
          go_roundw
          case rel => exact ⟨i + 1, by omega, by go_num, HO5, HB5⟩
          case measure => simp [intOf]; omega
      · obtain rfl : i = n := by omega
        have HBE : Hid (Below w.heap.size w wr) := Lib.hid (HB1.out.trans (HB.out.mono (by rw [← HEE.out]; exact HB1.out.size)))
        go_wp2_with fail
        go_ret
        exact ⟨_, rfl, by rw [HE.out]; exact own_mono HO.out (by rw [← HEE.out]; exact HB1.out.size), HBE.out⟩
end Go.Proofs.Ytadlelcckalcoaa
