/- Joined texts: PlainCu TrimS. -/
import Derived.Test.YtpfheanpbbfpdaaDoorPkC
import Derived.Test.YtpfheanpbbfpdaaDoorEq
/- Plain: the model's cut of a line, from the left on. -/
namespace Go.Proofs.YtpfheanpbbfpdaaDoor.pl
set_option maxRecDepth 100000

theorem cutG_short : ∀ (l cur : List UInt8), l.length < 3 → cutG 0 cur l = [cur ++ l]
  | [], cur, _ => by unfold cutG; simp
  | c :: r, cur, h => by
    rw [cutG_byte cur, cutG_short r _ (by simp at h; omega)]
    · simp
    · rintro ⟨_, e⟩
      have := congrArg List.length e
      rw [List.length_take] at this
      simp at this h
      omega
/-- from k on the line is still to be cut; the part that is read begins at f -/
def CutAt (x : ByteArray) (f k : Nat) (out : List ByteArray) : Prop :=
  ∃ done : List (List UInt8), cutG 0 [] x.data.toList = done ++ cutG 0 (seg x.data.toList f k) (x.data.toList.drop k) ∧ out = done.map (fun p => bs (trimL p))
theorem CutAt.start (x : ByteArray) : CutAt x 0 0 [] := ⟨[], by rw [seg_self]; rfl, rfl⟩
theorem ex_list (x : ByteArray) (a b : Nat) : (x.extract a b).toList = seg x.data.toList a b := by rw [Lib.toList_data, ex_bs, bs_data]
theorem drop_three (l : List UInt8) (k : Nat) : l.drop k = seg l k (k + 3) ++ l.drop (k + 3) := by
  unfold seg
  rw [show k + 3 - k = 3 from by omega, ← List.drop_drop, List.take_append_drop]
theorem CutAt.bar {x : ByteArray} {f k : Nat} {out : List ByteArray} (h : CutAt x f k out) (hb : ((x.extract k (k + 3)).toList == [32, 124, 32]) = true) {t : ByteArray} (ht : trimB (x.extract f k) = t) : CutAt x (k + 3) (k + 3) (out ++ [t]) := by
  obtain ⟨done, h1, h2⟩ := h
  have hs : seg x.data.toList k (k + 3) = [32, 124, 32] := by rw [← ex_list]; exact beq_iff_eq.1 hb
  refine ⟨done ++ [seg x.data.toList f k], ?_, ?_⟩
  · rw [h1, drop_three, hs]
    show _ ++ cutG 0 _ (32 :: 124 :: 32 :: _) = _
    rw [cutG_bar, seg_self, List.append_assoc]; rfl
  · rw [h2, List.map_append, ← ht, ex_bs]; rfl
theorem CutAt.step {x : ByteArray} {f k : Nat} {out : List ByteArray} (h : CutAt x f k out) (hf : f ≤ k) (hk : k + 3 ≤ x.size) (hb : ((x.extract k (k + 3)).toList == [32, 124, 32]) = false) : CutAt x f (k + 1) out := by
  obtain ⟨done, h1, h2⟩ := h
  refine ⟨done, ?_, h2⟩
  have hkl : k < x.data.toList.length := by rw [len_eq]; omega
  have hs : ¬ seg x.data.toList k (k + 3) = [32, 124, 32] := by
    intro e
    rw [← ex_list] at e
    rw [e] at hb
    exact absurd hb (by decide)
  have hd : x.data.toList.drop k = x.data.toList[k] :: x.data.toList.drop (k + 1) := List.drop_eq_getElem_cons hkl
  have hn : ¬ (x.data.toList[k] = 32 ∧ (x.data.toList.drop (k + 1)).take 2 = [124, 32]) := by
    rintro ⟨e1, e2⟩
    apply hs
    unfold seg
    rw [show k + 3 - k = 2 + 1 from by omega, hd, List.take_succ_cons, e1, e2]
  rw [h1, hd, cutG_byte _ hn, seg_succ hf (by omega)]
  rfl
theorem CutAt.last {x : ByteArray} {f k : Nat} {out : List ByteArray} (h : CutAt x f k out) (hf : f ≤ k) (hk : k ≤ x.size) (h3 : ¬ k + 3 ≤ x.size) {t : ByteArray} (ht : trimB (x.extract f x.size) = t) : out ++ [t] = readRow x := by
  obtain ⟨done, h1, h2⟩ := h
  unfold readRow
  rw [h1, cutG_short _ _ (by rw [List.length_drop, len_eq]; omega), List.map_append, ← h2, ← ht, ex_bs]
  congr 1
  have e : seg x.data.toList f k ++ x.data.toList.drop k = seg x.data.toList f x.size := by
    unfold seg
    have e1 : (x.data.toList.drop f).take (x.size - f) = x.data.toList.drop f := List.take_of_length_le (by rw [List.length_drop, len_eq]; exact Nat.le_refl _)
    rw [e1]
    have e2 := List.take_append_drop (k - f) (x.data.toList.drop f)
    rw [List.drop_drop, show f + (k - f) = k from by omega] at e2
    exact e2
  rw [e]; rfl
theorem CutAt.len {x : ByteArray} {f k : Nat} {out : List ByteArray} (h : CutAt x f k out) : out.length ≤ x.size + 1 := by
  obtain ⟨done, h1, h2⟩ := h
  have h3 := cutG_len x.data.toList 0 []
  rw [h1, List.length_append, len_eq] at h3
  rw [h2, List.length_map]; omega
theorem take_rows {ps : Gs} {j : Nat} (h : j < ps.length) : ps.take j ++ [nthP ps j] = ps.take (j + 1) := by
  rw [List.take_succ_eq_append_getElem h, nthP_eq h]
theorem drop_list {s t : ByteArray} {k : Nat} (h : t = bs (s.data.toList.drop k)) (hk : ld s = k) : bs (rtrim t.data.toList) = trimB s := by
  unfold trimB
  rw [h, bs_data, ← trim_comm]
  unfold ld at hk
  rw [hk]
theorem totTo_bd {ps : Gs} {M : Nat} : ∀ k, (∀ i, i < k → (nthP ps i).length ≤ M) → totTo ps k ≤ M * k
  | 0, _ => by simp [totTo]
  | k + 1, h => by
    rw [totTo_succ, Nat.mul_succ]
    have := totTo_bd k (fun i hi => h i (by omega))
    have := h k (by omega)
    omega
theorem readR_bd (ls : List ByteArray) : (readR ls).length ≤ 1000 ∧ totTo (readR ls) (readR ls).length ≤ 1000000 ∧ ∀ k, k < (readR ls).length → (nthP (readR ls) k).length ≤ 1000000 := by
  by_cases h : readB ls = true
  · have hv : vRows (readP ls) = true := by unfold readB at h; rw [Bool.and_eq_true] at h; exact h.2
    rw [readR_yes h]
    generalize readP ls = T at hv
    have h6 := (vRows_parts hv).1
    have hr : ∀ k, k < T.length → (nthP T k).length ≤ 5 := fun k hk => by
      rw [(vRows_row hv hk).1]; exact vRows_cols hv
    have ht := totTo_bd (ps := T) (M := 5) _ hr
    exact ⟨by omega, by omega, fun k hk => by have := hr k hk; omega⟩
  · rw [readR_no (by simpa using h)]
    exact ⟨by simp, by simp [totTo], fun k hk => by simp at hk⟩
end Go.Proofs.YtpfheanpbbfpdaaDoor.pl

/- Contract: the model's trim. -/
namespace Go.Proofs.YtpfheanpbbfpdaaDoor
open Go.RowKit
set_option maxRecDepth 100000
set_option linter.unusedVariables false

set_option maxHeartbeats 2000000 in
theorem strim_any (s : ByteArray) (w : World) (hs : s.size ≤ 1000000) :
    Calls Tryd.prog 57 #[.string s] w fun e w' => e = .returned (.string (pl.trimB s)) ∧ w = w' := by
  go_enter Tryd.func57, Tryd.ntmps57
  go_wp2
  go_loop [0] (fun v => ∃ (k : Nat) (t : ByteArray), v = .string t ∧ k ≤ s.size ∧ Hid (t = pl.bs (s.data.toList.drop k)) ∧ Hid (pl.leadL (s.data.toList.drop k) + k = pl.ld s)) (fun v => match v with | .string t => t.size | _ => 0)
  case atStart => exact ⟨0, s, rfl, Nat.zero_le _, Lib.hid (pl.drop_zero s).symm, Lib.hid rfl⟩
  case round =>
    obtain ⟨k, t, rfl, hk, ht, hc⟩ := hrel
    have htz : t.size = s.size - k := by rw [ht.out]; exact pl.drop_size
    by_cases hks : k < s.size
    · have h0 : 0 < t.size := by omega
      have hg : t[0] = s[k] := pl.drop_bs_get ht.out h0 hks
      by_cases e : s[k] = 32
      · have h1 : (t[0].toNat : Int) = 32 := by rw [hg, e]; rfl
        have hx := Lib.hid (pl.drop_tail ht.out)
        have hn := Lib.hid (pl.ld_next hc.out hks e)
        clear e hg htz
        go_wp2
        go_round
        case rel => exact ⟨k + 1, _, rfl, by omega, hx, hn⟩
        case measure =>
          have h2 : (t.extract 1 t.size).size = s.size - (k + 1) := by rw [hx.out]; exact pl.drop_size
          have h3 : t.size = s.size - k := by rw [ht.out]; exact pl.drop_size
          simp only [h2]; omega
      · have h1 : ¬ (t[0].toNat : Int) = 32 := by rw [hg]; exact pl.byte_ne e
        have hn := Lib.hid (pl.ld_at hc.out hks e)
        have HFIN := Lib.hid (pl.drop_list ht.out hn.out)
        clear e hg
        go_wp2
        go_loop [0] (fun v => ∃ (j : Nat) (t2 : ByteArray), v = .string t2 ∧ j ≤ t.size ∧ Hid (t2 = pl.bs (t.data.toList.take j)) ∧ Hid (pl.rcut t.data.toList t.size = pl.rcut t.data.toList j)) (fun v => match v with | .string t2 => t2.size | _ => 0)
        case atStart => exact ⟨t.size, t, rfl, Nat.le_refl _, Lib.hid (pl.take_full t).symm, Lib.hid rfl⟩
        case round =>
          obtain ⟨j, t2, rfl, hj, ht2, hc2⟩ := hrel
          have htz2 : t2.size = j := by rw [ht2.out]; exact pl.take_size hj
          cases j with
          | zero =>
            have hz2 : t2.size ≤ 0 := by omega
            have hn2 := Lib.hid (pl.rtrim_eq (k := 0) (hc2.out.trans rfl))
            clear htz2
            go_wp2
            go_ret
            exact ⟨by rw [← HFIN.out, hn2.out, ← ht2.out]; rfl, rfl⟩
          | succ i =>
            have hi2 : i < t.size := by omega
            by_cases e2 : t[i] = 32
            · have hjt : i < t2.size := by omega
              have h12 : (t2[i].toNat : Int) = 32 := by
                have := pl.take_bs_get hj (show i < i + 1 by omega) (by rw [← ht2.out]; exact hjt)
                rw [pl.get_cast ht2.out hjt, this, e2]; rfl
              have hx2 := Lib.hid (show t2.extract 0 i = pl.bs (t.data.toList.take i) by rw [ht2.out]; exact pl.take_take)
              have hn2 := Lib.hid (hc2.out.trans (pl.rcut_sp (by rw [pl.get_some hi2, e2])))
              clear e2
              go_wp2
              go_round
              case rel => exact ⟨i, _, rfl, by omega, hx2, hn2⟩
              case measure =>
                have : (t2.extract 0 i).size = i := by rw [hx2.out]; exact pl.take_size (by omega)
                simp only [this]; omega
            · have hjt : i < t2.size := by omega
              have h12 : ¬ (t2[i].toNat : Int) = 32 := by
                have := pl.take_bs_get hj (show i < i + 1 by omega) (by rw [← ht2.out]; exact hjt)
                rw [pl.get_cast ht2.out hjt, this]
                exact pl.byte_ne e2
              have hn2 := Lib.hid (pl.rtrim_eq (k := i + 1) (hc2.out.trans (pl.rcut_no (by rw [pl.get_some hi2]; intro h; exact e2 (Option.some.inj h)))))
              clear e2
              go_wp2
              go_ret
              exact ⟨by rw [← HFIN.out, hn2.out, ← ht2.out]; rfl, rfl⟩
    · have hn : Hid (pl.ld s = k) := Lib.hid (by
        have e : k = s.size := by omega
        have h := hc.out
        rw [e] at h ⊢; exact pl.ld_end h)
      have hz : t.size ≤ 0 := by omega
      have HFIN := Lib.hid (pl.drop_list ht.out hn.out)
      go_wp2
      go_loop [0] (fun v => ∃ (j : Nat) (t2 : ByteArray), v = .string t2 ∧ j ≤ t.size ∧ Hid (t2 = pl.bs (t.data.toList.take j)) ∧ Hid (pl.rcut t.data.toList t.size = pl.rcut t.data.toList j)) (fun v => match v with | .string t2 => t2.size | _ => 0)
      case atStart => exact ⟨t.size, t, rfl, Nat.le_refl _, Lib.hid (pl.take_full t).symm, Lib.hid rfl⟩
      case round =>
        obtain ⟨j, t2, rfl, hj, ht2, hc2⟩ := hrel
        have htz2 : t2.size = j := by rw [ht2.out]; exact pl.take_size hj
        cases j with
        | zero =>
          have hz2 : t2.size ≤ 0 := by omega
          have hn2 := Lib.hid (pl.rtrim_eq (k := 0) (hc2.out.trans rfl))
          clear htz2
          go_wp2
          go_ret
          exact ⟨by rw [← HFIN.out, hn2.out, ← ht2.out]; rfl, rfl⟩
        | succ i => exact absurd hj (by omega)
end Go.Proofs.YtpfheanpbbfpdaaDoor

