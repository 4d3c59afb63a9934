/- Contract: the model's parts. -/
import Derived.Test.YtadlelcckalcoaaPlainFs
import Derived.Test.YtadlelcckalcoaaForm
import Derived.Test.YtadlelcckalcoaaPkB
namespace Go.Proofs.Ytadlelcckalcoaa
open Go.RowKit
set_option maxRecDepth 100000
set_option linter.unusedVariables false

def PartsPost (s : ByteArray) (w : World) (e : Ending) (w' : World) : Prop :=
  Below w.heap.size w w' ∧ ((∃ v u, e = .returned (.tuple #[v, u, .bool false]) ∧ pl.formT s.data.toList = none) ∨ (∃ v u T N, e = .returned (.tuple #[v, u, .bool true]) ∧ pl.formT s.data.toList = some (pl.toT T N) ∧ OStrs w.heap.size w' v T ∧ OStrs w.heap.size w' u N ∧ T.length = N.length + 1 ∧ N.length ≤ 5 ∧ (∀ n ∈ N, pl.nameB n.data.toList = true) ∧ (∀ t ∈ T, t.size ≤ 120)))

/-- two slices that a call made do not share a block -/
def Apart (a b : Value) : Prop := ∀ g h, a.ownBlock = some g → b.ownBlock = some h → g ≠ h
theorem Apart.kept {B : Nat} {w w' : World} {a v : Value} {l : List ByteArray} (h : Apart a v) (ho : OStrs B w v l) (hg : w.grownBy w' a.ownBlock) : OStrs B w' v l := by
  refine World.ownsRow.kept ho hg ?_
  cases hv : v.ownBlock with
  | none => exact .inl rfl
  | some k => exact .inr (fun e => h k k e.symm hv rfl)
theorem Apart.symm {a b : Value} (h : Apart a b) : Apart b a := fun g k h1 h2 e => h k g h2 h1 e.symm
theorem Apart.left {a a' b : Value} {n : Nat} (h : Apart a b) (hat : a'.ownBlock = a.ownBlock ∨ a'.ownBlock = some n) (hb : ∀ k, b.ownBlock = some k → k < n) : Apart a' b := by
  intro g k h1 h2
  rcases hat with e | e
  · exact h g k (e.symm.trans h1) h2
  · rw [h1] at e; injection e with e; have := hb k h2; omega

def RdParts (s : ByteArray) (B : Nat) (w : World) (tv uv nv iv : Value) (wr : World) : Prop :=
  ∃ (i : Nat) (T N : List ByteArray) (now : List UInt8), i ≤ s.size ∧ iv = .int .i64 i ∧ nv = .string (pl.bs now) ∧ Hid (pl.PInv s i T N now) ∧ Hid (OStrs B wr tv T) ∧ Hid (OStrs B wr uv N) ∧ Hid (Below B w wr) ∧ Hid (Apart tv uv)

theorem bne_yes {x y : Int} (h : ¬ x = y) : (x != y) = true := by simp [h]
theorem bne_no {x y : Int} (h : x = y) : (x != y) = false := by simp [h]

set_option maxHeartbeats 8000000 in
theorem sparts_any (s : ByteArray) (w : World) (hs : s.size ≤ 1048576) :
    Calls Try.prog 62 #[.string s] w (PartsPost s w) := by
  obtain ⟨i0, hi, hz0, hz1, hz2⟩ := info_parts infoS
  go_enter Try.func62, Try.ntmps62
  go_wp2_with fail
  go_loopw [5, 6, 7, 8] (fun tv uv nv iv wr => RdParts s w.heap.size w tv uv nv iv wr) (fun _ _ _ iv _ => s.size - (intOf iv).toNat)
  case atStart =>
    have s1 : (w.alloc (.cells #[] 9)).heap.size = w.heap.size + 1 := by simp
    have o1 : OStrs w.heap.size (w.alloc (.cells #[] 9)) (.slice (some ⟨w.heap.size, 0, none⟩) 0 0) [] := World.ownsRow_made _ _ _ (Nat.le_refl _) (by unfold maxLen; omega) rfl
    have o2 : OStrs w.heap.size ((w.alloc (.cells #[] 9)).alloc (.cells #[] 9)) (.slice (some ⟨(w.alloc (.cells #[] 9)).heap.size, 0, none⟩) 0 0) [] := World.ownsRow_made _ _ _ (by omega) (by unfold maxLen; omega) rfl
    rw [s1] at o2
    exact ⟨0, [], [], [], Nat.zero_le _, rfl, rfl, Lib.hid (pl.PInv.start s), Lib.hid (o1.alloc _), Lib.hid o2, Lib.hid (((Below.refl _ _).alloc (Nat.le_refl _) _).alloc (by omega) _), Lib.hid (fun g k h1 h2 => by simp [Value.ownBlock] at h1 h2; omega)⟩
  case round =>
    obtain ⟨i, T, N, now, hin, rfl, rfl, HP, HT, HU, HB, HBu⟩ := hrel
    have hnl := HP.out.len
    have hnz : (pl.bs now).size ≤ 1048576 := by show now.length ≤ _; omega
    by_cases hlt : i < s.size
    · have hex1 : (s.extract i (i + 1)).size ≤ 1 := by rw [ByteArray.size_extract]; omega
      have hw1 : IntKind.i64.wrap ((i : Int) + 1) = (i : Int) + 1 := by rw [IntKind.wrap_i64]; omega
      have hi00 : (0 : Int) ≤ (i : Int) + 1 := by omega
      by_cases h1 : i + 1 < s.size
      · have h1i : (i : Int) + 1 < (s.size : Int) := by omega
        by_cases h2 : s[i + 1] = s[i]
        · have h2i : ((s[i + 1].toNat : Int) == (s[i].toNat : Int)) = true := by rw [h2]; simp
          go_wp2_with fail
          go_quiet (fail)
          have HB2 : Hid (Below w.heap.size w (wr.drewN nq)) := Lib.hid (HB.out.trans below_drewN)
          have hBd : Below wr.heap.size wr (wr.drewN nq) := below_drewN
          have HT2 : Hid (OStrs w.heap.size (wr.drewN nq) u5 T) := Lib.hid (HT.out.below (Nat.le_refl _) hBd)
          have HU2 : Hid (OStrs w.heap.size (wr.drewN nq) u6 N) := Lib.hid (HU.out.below (Nat.le_refl _) hBd)
          have HBu2 := HBu
          obtain ⟨wq, HWQ⟩ : ∃ wq, Hid (wr.drewN nq = wq) := ⟨_, Lib.hid rfl⟩
          have hwq : w.heap.size ≤ wq.heap.size := by rw [← HWQ.out]; exact HB2.out.size
          rw [HWQ.out] at HB2 HT2 HU2 ⊢
          clear hBd
          by_cases e1 : s[i] = 123
          · have h2' := h2
            have HN := Lib.hid (HP.out.two h1 (by rw [e1]; rfl) h2)
            have hes := Lib.hid (pl.bs_one now hlt)
            have g1 : (s[i].toNat : Int) = 123 := by rw [e1]; rfl
            have g2 : ¬ (s[i].toNat : Int) = 125 := by rw [e1]; decide
            have b1 := bne_no g1
            have b2 := bne_yes g2
            have hw2 : IntKind.i64.wrap ((i : Int) + 1 + 1) = (i : Int) + 1 + 1 := by rw [IntKind.wrap_i64]; omega
            clear e1 h2
            go_wp2
            go_roundw
            case rel => exact ⟨i + 2, T, N, _, by omega, by go_num, congrArg Value.string hes.out, HN, HT2, HU2, HB2, HBu2⟩
            case measure => simp [intOf]; omega
          · by_cases e2 : s[i] = 125
            · skip
              have HN := Lib.hid (HP.out.two h1 (by rw [e2]; rfl) h2)
              have hes := Lib.hid (pl.bs_one now hlt)
              have g1 : ¬ (s[i].toNat : Int) = 123 := pl.byte_neN e1 rfl
              have g2 : (s[i].toNat : Int) = 125 := by rw [e2]; rfl
              have b1 := bne_yes g1
              have b2 := bne_no g2
              have hw2 : IntKind.i64.wrap ((i : Int) + 1 + 1) = (i : Int) + 1 + 1 := by rw [IntKind.wrap_i64]; omega
              clear e1 e2 h2
              go_wp2
              go_roundw
              case rel => exact ⟨i + 2, T, N, _, by omega, by go_num, congrArg Value.string hes.out, HN, HT2, HU2, HB2, HBu2⟩
              case measure => simp [intOf]; omega
            · skip
              have HN := Lib.hid (HP.out.plain hlt (by simp [pl.isBr, e1, e2]))
              have hes := Lib.hid (pl.bs_one now hlt)
              have g1 : ¬ (s[i].toNat : Int) = 123 := pl.byte_neN e1 rfl
              have g2 : ¬ (s[i].toNat : Int) = 125 := pl.byte_neN e2 rfl
              have b1 := bne_yes g1
              have b2 := bne_yes g2
              clear e1 e2
              go_wp2
              go_roundw
              case rel => exact ⟨i + 1, T, N, _, by omega, by go_num, congrArg Value.string hes.out, HN, HT2, HU2, HB2, HBu2⟩
              case measure => simp [intOf]; omega
        · have h2i : ((s[i + 1].toNat : Int) == (s[i].toNat : Int)) = false := beq_eq_false_iff_ne.2 (fun h => h2 (UInt8.toNat_inj.1 (by omega)))
          have NT : Hid (∀ hi : i + 1 < s.size, ¬ s[i + 1] = s[i]) := Lib.hid (fun _ => h2)
          clear h2
          go_wp2_with fail
          go_quiet (fail)
          have HB2 : Hid (Below w.heap.size w (wr.drewN nq)) := Lib.hid (HB.out.trans below_drewN)
          have hBd : Below wr.heap.size wr (wr.drewN nq) := below_drewN
          have HT2 : Hid (OStrs w.heap.size (wr.drewN nq) u5 T) := Lib.hid (HT.out.below (Nat.le_refl _) hBd)
          have HU2 : Hid (OStrs w.heap.size (wr.drewN nq) u6 N) := Lib.hid (HU.out.below (Nat.le_refl _) hBd)
          have HBu2 := HBu
          obtain ⟨wq, HWQ⟩ : ∃ wq, Hid (wr.drewN nq = wq) := ⟨_, Lib.hid rfl⟩
          have hwq : w.heap.size ≤ wq.heap.size := by rw [← HWQ.out]; exact HB2.out.size
          rw [HWQ.out] at HB2 HT2 HU2 ⊢
          clear hBd
          by_cases e1 : s[i] = 123
          · skip
            have NT2 : Hid (∀ hi : i + 1 < s.size, ¬ s[i + 1] = 123) := Lib.hid (fun hi h => NT.out hi (by rw [h, e1]))
            have E1 := Lib.hid e1
            have g1 : (s[i].toNat : Int) = 123 := by rw [e1]; rfl
            have g2 : ¬ (s[i].toNat : Int) = 125 := by rw [e1]; decide
            have b1 := bne_no g1
            have b2 := bne_yes g2
            clear e1 NT
            go_wp2_with fail
            go_loop [10] (fun kv => ∃ k : Nat, i + 1 ≤ k ∧ k ≤ s.size ∧ kv = .int .i64 k ∧ Hid (pl.noClose s (i + 1) k)) (fun kv => s.size - (intOf kv).toNat)
            case atStart => exact ⟨i + 1, Nat.le_refl _, hlt, by go_num, Lib.hid (pl.noClose_start s _)⟩
            case round =>
              obtain ⟨k, hk1, hk2, rfl, HC⟩ := hrel
              have hwk : IntKind.i64.wrap ((k : Int) + 1) = (k : Int) + 1 := by rw [IntKind.wrap_i64]; omega
              by_cases hk : k < s.size
              · by_cases ek : s[k] = 125
                · have g3 : (s[k].toNat : Int) = 125 := by rw [ek]; rfl
                  have hkne : ((k : Int) == (s.size : Int)) = false := beq_eq_false_iff_ne.2 (by omega)
                  have hik : (i : Int) + 1 ≤ (k : Int) := by omega
                  have hex : (s.extract (i + 1) k).size ≤ 1048576 := by rw [ByteArray.size_extract]; omega
                  have HNN := Lib.hid (fun h => HP.out.noName hlt E1.out NT2.out HC.out hk1 hk ek h)
                  have HNY := Lib.hid (fun h => HP.out.hole hlt E1.out NT2.out HC.out hk1 hk ek h)
                  have HBN := Lib.hid (fun (h : pl.nameB (s.extract (i + 1) k).data.toList = true) => (pl.nameB_parts h).2.1)
                  obtain ⟨x, HX⟩ : ∃ x, Hid (s.extract (i + 1) k = x) := ⟨_, Lib.hid rfl⟩
                  rw [HX.out] at hex HNN HNY HBN
                  have hxi : s.extract (i + 1) k = x := HX.out
                  clear ek
                  go_wp2_with fail
                  refine (sisName_any x _ (by unfold maxLen; omega)).mono ?_
                  rintro e w' ⟨rfl, rfl⟩
                  cases hnm : pl.nameB x.data.toList with
                  | false =>
                    have HE := Lib.hid (HNN.out hnm)
                    clear hnm hxi
                    go_wp2_with fail
                    go_ret3
                    exact ⟨HB2.out, .inl ⟨_, _, rfl, pl.formT_none HE.out⟩⟩
                  | true =>
                    have HN := Lib.hid (HNY.out hnm)
                    clear hnm
                    have hTb : T.length ≤ 1048576 ∧ N.length ≤ 1048576 := by have h3 := HP.out.same; have h4 := HP.out.len; omega
                    go_wp2_with (at_builtin; refine wpList_append_own_at _ rfl _ _ 23 rfl w.heap.size 9 i0 (.string ByteArray.empty) 1 16 Try.underlying23 hi hz0 hz1 hz2 rfl (by decide) _ _ _ rfl (World.ownsRow.alloc HT2.out _) ⟨wq.heap.size, 0, none⟩ 1 1 [.string (pl.bs now)] rfl rfl (cell_one_new _ _ _) (by intro u hu; simp at hu; subst hu; rfl) (by unfold maxLen; omega) (by omega) (by simp; omega) ?_)
                    intro v5 w5 hown5 hgrow5 _ hat5
                    have HT5 := Lib.hid (OStrs.push1 hown5)
                    have HU5 := Lib.hid (HBu2.out.kept (World.ownsRow.alloc HU2.out _) hgrow5)
                    have HA5 := Lib.hid (HBu2.out.left hat5 (fun g hg => by have := (World.ownsRow.lt HU2.out g hg).2; simp; omega))
                    have HB5 := Lib.hid ((HB2.out.alloc HB2.out.size _).grown hgrow5 (by simp; omega) (fun g hg => (World.ownsRow.lt HT2.out g hg).1))
                    have h5w : w.heap.size ≤ w5.heap.size := HB5.out.size
                    clear hown5 hgrow5 hat5
                    go_wp2_with (at_builtin; refine wpList_append_own_at _ rfl _ _ 23 rfl w.heap.size 9 i0 (.string ByteArray.empty) 1 16 Try.underlying23 hi hz0 hz1 hz2 rfl (by decide) _ _ _ rfl (World.ownsRow.alloc HU5.out _) ⟨w5.heap.size, 0, none⟩ 1 1 [.string x] rfl rfl (cell_one_new _ _ _) (by intro u hu; simp at hu; subst hu; rfl) (by unfold maxLen; omega) (by omega) (by simp; omega) ?_)
                    intro v6 w6 hown6 hgrow6 _ hat6
                    have HU6 := Lib.hid (OStrs.push1 hown6)
                    have HT6 := Lib.hid (HA5.out.symm.kept (World.ownsRow.alloc HT5.out _) hgrow6)
                    have HA6 := Lib.hid ((HA5.out.symm.left hat6 (fun g hg => by have := (World.ownsRow.lt HT5.out g hg).2; simp; omega)).symm)
                    have HB6 := Lib.hid ((HB5.out.alloc HB5.out.size _).grown hgrow6 (by simp; omega) (fun g hg => (World.ownsRow.lt HU5.out g hg).1))
                    clear hown6 hgrow6 hat6
                    go_wp2
                    go_roundw
                    case rel => exact ⟨k + 1, _, _, [], by omega, by go_num, rfl, HN, HT6, HU6, HB6, HA6⟩
                    case measure => simp [intOf]; omega
                · have g3 : ¬ (s[k].toNat : Int) = 125 := pl.byte_neN ek rfl
                  have HCN := Lib.hid (pl.noClose_next HC.out hk ek)
                  clear ek
                  go_wp2
                  go_round
                  case rel => exact ⟨k + 1, by omega, by omega, by go_num, HCN⟩
                  case measure => simp [intOf]; omega
              · obtain rfl : k = s.size := by omega
                have hki : ¬ (s.size : Int) < (s.size : Int) := by omega
                have HE := Lib.hid (HP.out.bad hlt E1.out NT2.out HC.out)
                go_wp2_with fail
                go_ret3
                exact ⟨HB2.out, .inl ⟨_, _, rfl, pl.formT_none HE.out⟩⟩
          · by_cases e2 : s[i] = 125
            · skip
              have HE := Lib.hid (HP.out.close hlt e2 (fun hi h => NT.out hi (by rw [h, e2])))
              have g1 : ¬ (s[i].toNat : Int) = 123 := pl.byte_neN e1 rfl
              have g2 : (s[i].toNat : Int) = 125 := by rw [e2]; rfl
              have b1 := bne_yes g1
              have b2 := bne_no g2
              clear e1 e2
              go_wp2_with fail
              go_ret3
              exact ⟨HB2.out, .inl ⟨_, _, rfl, pl.formT_none HE.out⟩⟩
            · skip
              have HN := Lib.hid (HP.out.plain hlt (by simp [pl.isBr, e1, e2]))
              have hes := Lib.hid (pl.bs_one now hlt)
              have g1 : ¬ (s[i].toNat : Int) = 123 := pl.byte_neN e1 rfl
              have g2 : ¬ (s[i].toNat : Int) = 125 := pl.byte_neN e2 rfl
              have b1 := bne_yes g1
              have b2 := bne_yes g2
              clear e1 e2
              go_wp2
              go_roundw
              case rel => exact ⟨i + 1, T, N, _, by omega, by go_num, congrArg Value.string hes.out, HN, HT2, HU2, HB2, HBu2⟩
              case measure => simp [intOf]; omega
      · have h1d : decide ((i : Int) + 1 < (s.size : Int)) = false := decide_eq_false (by omega)
        have NT : Hid (∀ hi : i + 1 < s.size, ¬ s[i + 1] = s[i]) := Lib.hid (fun h => absurd h h1)
        go_wp2_with fail
        go_quiet (fail)
        have HB2 : Hid (Below w.heap.size w (wr.drewN nq)) := Lib.hid (HB.out.trans below_drewN)
        have hBd : Below wr.heap.size wr (wr.drewN nq) := below_drewN
        have HT2 : Hid (OStrs w.heap.size (wr.drewN nq) u5 T) := Lib.hid (HT.out.below (Nat.le_refl _) hBd)
        have HU2 : Hid (OStrs w.heap.size (wr.drewN nq) u6 N) := Lib.hid (HU.out.below (Nat.le_refl _) hBd)
        have HBu2 := HBu
        obtain ⟨wq, HWQ⟩ : ∃ wq, Hid (wr.drewN nq = wq) := ⟨_, Lib.hid rfl⟩
        have hwq : w.heap.size ≤ wq.heap.size := by rw [← HWQ.out]; exact HB2.out.size
        rw [HWQ.out] at HB2 HT2 HU2 ⊢
        clear hBd
        by_cases e1 : s[i] = 123
        · skip
          have NT2 : Hid (∀ hi : i + 1 < s.size, ¬ s[i + 1] = 123) := Lib.hid (fun hi h => NT.out hi (by rw [h, e1]))
          have E1 := Lib.hid e1
          have g1 : (s[i].toNat : Int) = 123 := by rw [e1]; rfl
          have g2 : ¬ (s[i].toNat : Int) = 125 := by rw [e1]; decide
          have b1 := bne_no g1
          have b2 := bne_yes g2
          clear e1 NT
          go_wp2_with fail
          go_loop [10] (fun kv => ∃ k : Nat, i + 1 ≤ k ∧ k ≤ s.size ∧ kv = .int .i64 k ∧ Hid (pl.noClose s (i + 1) k)) (fun kv => s.size - (intOf kv).toNat)
          case atStart => exact ⟨i + 1, Nat.le_refl _, hlt, by go_num, Lib.hid (pl.noClose_start s _)⟩
          case round =>
            obtain ⟨k, hk1, hk2, rfl, HC⟩ := hrel
            have hwk : IntKind.i64.wrap ((k : Int) + 1) = (k : Int) + 1 := by rw [IntKind.wrap_i64]; omega
            by_cases hk : k < s.size
            · exact absurd hk (by omega)
            · obtain rfl : k = s.size := by omega
              have hki : ¬ (s.size : Int) < (s.size : Int) := by omega
              have HE := Lib.hid (HP.out.bad hlt E1.out NT2.out HC.out)
              go_wp2_with fail
              go_ret3
              exact ⟨HB2.out, .inl ⟨_, _, rfl, pl.formT_none HE.out⟩⟩
        · by_cases e2 : s[i] = 125
          · skip
            have HE := Lib.hid (HP.out.close hlt e2 (fun hi h => NT.out hi (by rw [h, e2])))
            have g1 : ¬ (s[i].toNat : Int) = 123 := pl.byte_neN e1 rfl
            have g2 : (s[i].toNat : Int) = 125 := by rw [e2]; rfl
            have b1 := bne_yes g1
            have b2 := bne_no g2
            clear e1 e2
            go_wp2_with fail
            go_ret3
            exact ⟨HB2.out, .inl ⟨_, _, rfl, pl.formT_none HE.out⟩⟩
          · skip
            have HN := Lib.hid (HP.out.plain hlt (by simp [pl.isBr, e1, e2]))
            have hes := Lib.hid (pl.bs_one now hlt)
            have g1 : ¬ (s[i].toNat : Int) = 123 := pl.byte_neN e1 rfl
            have g2 : ¬ (s[i].toNat : Int) = 125 := pl.byte_neN e2 rfl
            have b1 := bne_yes g1
            have b2 := bne_yes g2
            clear e1 e2
            go_wp2
            go_roundw
            case rel => exact ⟨i + 1, T, N, _, by omega, by go_num, congrArg Value.string hes.out, HN, HT2, HU2, HB2, HBu2⟩
            case measure => simp [intOf]; omega
    · obtain rfl : i = s.size := by omega
      have HD := Lib.hid HP.out.done
      have hTb : T.length ≤ 1048576 ∧ N.length ≤ 1048576 := by have h3 := HP.out.same; have h4 := HP.out.len; omega
      have HSL : Hid ((T ++ [pl.bs now]).length = N.length + 1) := Lib.hid (by rw [List.length_append, HP.out.same]; rfl)
      have hwr : w.heap.size ≤ wr.heap.size := HB.out.size
      go_wp2_with (at_builtin; refine wpList_append_own_at _ rfl _ _ 23 rfl w.heap.size 9 i0 (.string ByteArray.empty) 1 16 Try.underlying23 hi hz0 hz1 hz2 rfl (by decide) _ _ _ rfl (World.ownsRow.alloc HT.out _) ⟨wr.heap.size, 0, none⟩ 1 1 [.string (pl.bs now)] rfl rfl (cell_one_new _ _ _) (by intro u hu; simp at hu; subst hu; rfl) (by unfold maxLen; omega) (by omega) (by simp; omega) ?_)
      intro v5 w5 hown5 hgrow5 _ hat5
      have HT5 := Lib.hid (OStrs.push1 hown5)
      have HU5 := Lib.hid (HBu.out.kept (World.ownsRow.alloc HU.out _) hgrow5)
      have HB5 := Lib.hid ((HB.out.alloc HB.out.size _).grown hgrow5 (by simp; omega) (fun g hg => (World.ownsRow.lt HT.out g hg).1))
      clear hown5 hgrow5 hat5
      obtain ⟨a6, c6, hv6⟩ := HU5.out.reads.slice
      obtain ⟨m, HM⟩ : ∃ m, Hid (N.length = m) := ⟨_, Lib.hid rfl⟩
      rw [HM.out] at hv6
      subst hv6
      go_wp2_with fail
      refine (svalidText_any s _ (by unfold maxLen; omega)).mono ?_
      rintro e w' ⟨rfl, rfl⟩
      cases hv : pl.validT s.data.toList with
      | false =>
        have HE := Lib.hid (pl.formT_text hv)
        clear hv
        go_wp2_with fail
        go_ret3
        exact ⟨HB5.out, .inl ⟨_, _, rfl, HE.out⟩⟩
      | true =>
        have HV := Lib.hid hv
        have h120 := pl.validT_size hv
        clear hv
        by_cases h5 : m ≤ 5
        · have h5i : (m : Int) ≤ 5 := by omega
          have HE := Lib.hid (pl.parts_ok HD.out HSL.out HV.out (by rw [HM.out]; exact h5))
          have HSZ : Hid (∀ t ∈ T ++ [pl.bs now], t.size ≤ 120) := Lib.hid (fun t ht => by
            rw [List.mem_append, List.mem_singleton] at ht
            rcases ht with ht | rfl
            · exact Nat.le_trans (HP.out.size t ht) h120
            · show now.length ≤ 120; omega)
          have H5 := Lib.hid h5
          clear h5
          go_wp2_with fail
          go_ret3
          exact ⟨HB5.out, .inr ⟨v5, .slice a6 m c6, _, N, rfl, HE.out, HT5.out, HU5.out, HSL.out, by rw [HM.out]; omega, HP.out.name, HSZ.out⟩⟩
        · have h5i : 5 < (m : Int) := by omega
          have h5d : decide ((m : Int) ≤ 5) = false := decide_eq_false (by omega)
          have h5e : decide (m ≤ 5) = false := decide_eq_false h5
          have HE := Lib.hid (pl.parts_many HD.out HSL.out (by rw [HM.out]; exact h5))
          have H5 := Lib.hid h5
          clear h5
          go_wp2_with fail
          go_ret3
          exact ⟨HB5.out, .inl ⟨v5, .slice a6 m c6, rfl, HE.out⟩⟩
end Go.Proofs.Ytadlelcckalcoaa
