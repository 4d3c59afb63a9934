/- Contract: someLines, and the draws made of it. -/
import Derived.Test.YtkbfceahhginhaaRRRRDoorRRRRDrawS
import Derived.Test.YtkbfceahhginhaaRRRRDoorRRRRTabs
namespace Go.Proofs.YtkbfceahhginhaaRRRRDoorRRRR
open Go.RowKit
set_option maxRecDepth 100000

def GotLines (q B g n c : Nat) (ao : Option Addr) (w : World) (e : Ending) (w' : World) : Prop :=
  ∃ v l, e = .returned v ∧ OStrs w.heap.size w' v l ∧ l.length ≤ 6 ∧ few 120 l ∧ ∃ p', p' ≤ q ∧ Rdr B g n c p' ao w' ∧ w.grownBy w' (some g)

set_option maxHeartbeats 4000000 in
theorem someLines_any (B g n c p : Nat) (ao : Option Addr) (w : World) (h : Rdr B g n c p ao w) (hp : p ≤ 800000) :
    Calls Tryd.prog 27 #[.pointer (some ⟨g, 0, none⟩)] w (GotLines (p + 200) B g n c ao w) := by
  obtain ⟨i0, hi, hz0, hz1, hz2⟩ := info_parts infoS
  have hgw := h.lt
  have habove := h.above
  go_enter Tryd.func27, Tryd.ntmps27
  go_wp2_with fail
  have hR0 : Rdr B g n c p ao (w.alloc (.cells #[] 9)) := h.below (C := w.heap.size) (by omega) hgw ((Below.refl _ _).alloc (Nat.le_refl _) _)
  have ho0 : OStrs w.heap.size (w.alloc (.cells #[] 9)) (.slice (some ⟨w.heap.size, 0, none⟩) 0 0) [] := World.ownsRow_made _ _ _ (Nat.le_refl _) (by unfold maxLen; omega) rfl
  obtain ⟨w0, HW0⟩ : ∃ u, Hid (w.alloc (.cells #[] 9) = u) := ⟨_, Lib.hid rfl⟩
  have hg0 : w.grownBy w0 (some g) := by rw [← HW0.out]; exact grown_al w _
  have hsz1 : w0.heap.size = w.heap.size + 1 := by rw [← HW0.out]; simp
  rw [HW0.out] at hR0 ho0 ⊢
  rw [← hsz1]
  refine (one_lit 0 5 6 _ rfl (by omega) (by omega) ?_ B g n c p ao _ hR0 (by omega)).mono ?_
  · simp [okInts]
  rintro e w1 ⟨x, rfl, hx0, hx8, p1, hp1, hR1, hg1⟩
  obtain ⟨x, rfl⟩ := Int.eq_ofNat_of_zero_le hx0
  have ho1 := ho0.read hg1 hgw
  go_wp2_with fail
  go_loopw [3, 4] (fun lv cv wr => ∃ (j : Nat) (l : List ByteArray) (p' : Nat), j ≤ 5 ∧ cv = .int .i64 j ∧ OStrs w.heap.size wr lv l ∧ Hid (l.length ≤ 5 - j) ∧ Hid (few 120 l) ∧ p' ≤ p + 1 + 20 * (5 - j) ∧ Rdr B g n c p' ao wr ∧ w.grownBy wr (some g)) (fun _ cv _ => (intOf cv).toNat)
  case atStart => exact ⟨x, [], p1, by omega, rfl, ho1, Lib.hid (Nat.zero_le _), Lib.hid (few_nil _), by omega, hR1, grown_tr hg0 hg1⟩
  case round =>
    obtain ⟨j, l, p', hj, rfl, hown, hll, hfew, hp', hR, hgr⟩ := hrel
    have HO := Lib.hid hown
    have HG := Lib.hid hgr
    clear hown hgr
    by_cases h0 : 0 < j
    · have h0i : (0 : Int) < (j : Int) := by omega
      go_wp2_with fail
      refine (pick_any 5 B g n c p' ao _ hR (by omega) (by omega)).mono ?_
      rintro e w2 ⟨r, rfl, hr0, hr1, hR2, hg2⟩
      have hr5 := hr1 (by omega)
      obtain ⟨r, rfl⟩ := Int.eq_ofNat_of_zero_le hr0
      have HO2 := Lib.hid (HO.out.read hg2 hgw)
      have HG2 := Lib.hid (grown_tr HG.out hg2)
      clear hg2
      go_wp2_with fail
      refine (sspaces_at _ r (by first | rfl | go_num) _ (by omega)).mono ?_
      rintro e w' ⟨rfl, rfl⟩
      have htz := pl.spB_size r
      obtain ⟨t, HT⟩ : ∃ t, Hid (pl.spB r = t) := ⟨_, Lib.hid rfl⟩
      rw [HT.out] at htz ⊢
      go_wp2_with fail
      refine (someWord_any B g n c (p' + 1) ao _ hR2 (by omega)).mono ?_
      rintro e w3 ⟨s0, rfl, hs0, p3, hp3, hR3, hg3⟩
      have HO3 := Lib.hid (HO2.out.read hg3 hgw)
      have HG3 := Lib.hid (grown_tr HG2.out hg3)
      clear hg3
      go_wp2_with fail
      refine (pick_any 4 B g n c p3 ao _ hR3 (by omega) (by omega)).mono ?_
      rintro e w4 ⟨r4, rfl, hr40, hr41, hR4, hg4⟩
      have hr44 := hr41 (by omega)
      obtain ⟨r4, rfl⟩ := Int.eq_ofNat_of_zero_le hr40
      have HO4 := Lib.hid (HO3.out.read hg4 hgw)
      have HG4 := Lib.hid (grown_tr HG3.out hg4)
      clear hg4
      go_wp2_with fail
      go_loopw [5, 6] (fun sv nv wr => ∃ (i : Nat) (s : ByteArray) (q : Nat), i ≤ 3 ∧ nv = .int .i64 i ∧ sv = .string s ∧ s.size ≤ 16 + 13 * (3 - i) ∧ q ≤ p' + 3 + (3 - i) ∧ Rdr B g n c q ao wr ∧ OStrs w.heap.size wr u3 l ∧ w.grownBy wr (some g)) (fun _ nv _ => (intOf nv).toNat)
      case atStart => exact ⟨r4, _, p3 + 1, by omega, rfl, rfl, by simp only [ByteArray.size_append]; omega, by omega, hR4, HO4.out, HG4.out⟩
      case round =>
        obtain ⟨i, s, q, hi3, rfl, rfl, hs, hq, hRi, hoi, hgi⟩ := hrel
        have HOI := Lib.hid hoi
        have HGI := Lib.hid hgi
        clear hoi hgi
        by_cases hi0 : 0 < i
        · have hi0i : (0 : Int) < (i : Int) := by omega
          go_wp2_with fail
          refine (someWord_any B g n c q ao _ hRi (by omega)).mono ?_
          rintro e w5 ⟨s5, rfl, hs5, p5, hp5, hR5, hg5⟩
          have HO5 := Lib.hid (HOI.out.read hg5 hgw)
          have HG5 := Lib.hid (grown_tr HGI.out hg5)
          clear hg5
          go_wp2_with fail
          go_roundw
          case rel => exact ⟨i - 1, _, p5, by omega, by go_num, rfl, by simp only [ByteArray.size_append]; first | omega | (have z1 : (ByteArray.mk #[32]).size = 1 := rfl; have z2 : (ByteArray.mk #[62]).size = 1 := rfl; omega), by omega, hR5, HO5.out, HG5.out⟩
          case measure => simp [intOf]; omega
        · obtain rfl : i = 0 := by omega
          go_wp2_with fail
          refine (pick_any 10 B g n c q ao _ hRi (by omega) (by omega)).mono ?_
          rintro e w6 ⟨r6, rfl, hr60, hr61, hR6, hg6⟩
          have HO6 := Lib.hid (HOI.out.read hg6 hgw)
          have HG6 := Lib.hid (grown_tr HGI.out hg6)
          clear hg6
          by_cases e0 : r6 = 0
          · subst e0
            go_wp2_with fail
            refine (pick_any 4 B g n c (q + 1) ao _ hR6 (by omega) (by omega)).mono ?_
            rintro e w7 ⟨r7, rfl, hr70, hr71, hR7, hg7⟩
            have hr74 := hr71 (by omega)
            obtain ⟨r7, rfl⟩ := Int.eq_ofNat_of_zero_le hr70
            have HO7 := Lib.hid (HO6.out.read hg7 hgw)
            have HG7 := Lib.hid (grown_tr HG6.out hg7)
            clear hg7
            go_wp2_with fail
            refine (sspaces_at _ r7 (by first | rfl | go_num) _ (by omega)).mono ?_
            rintro e w' ⟨rfl, rfl⟩
            have htz7 := pl.spB_size r7
            obtain ⟨t7, HT7⟩ : ∃ t, Hid (pl.spB r7 = t) := ⟨_, Lib.hid rfl⟩
            rw [HT7.out] at htz7 ⊢
            have hsz0 := HG7.out.size
            have hll0 := hll.out
            go_wp2_with (at_builtin; refine wpList_append_own _ rfl _ _ 23 rfl w.heap.size 9 i0 (.string ByteArray.empty) 1 16 Tryd.underlying23 hi hz0 hz1 hz2 rfl (by decide) _ _ _ rfl (World.ownsRow.alloc HO7.out _) ⟨_, 0, none⟩ 1 1 [.string (t7)] rfl rfl ?cA1 ?cA2 ?cA3 ?cA4 ?cA5 ?_)
            case cA1 => exact cell_one_new _ _ _
            case cA2 => intro u hu; simp at hu; subst hu; rfl
            case cA3 => unfold maxLen; omega
            case cA4 => omega
            case cA5 => simp; omega
            intro v' wE hown' hgrow _
            have hbE : Below w.heap.size w7 wE := ((Below.refl _ _).alloc hsz0 _).grown hgrow (by simp; omega) (fun k hk => (World.ownsRow.lt HO7.out k hk).1)
            have HOE := Lib.hid (OStrs.push1 hown')
            have HGE := Lib.hid (grown_then HG7.out hbE)
            have HRE := Lib.hid (hR7.below (C := w.heap.size) (by omega) hgw hbE)
            clear hown' hgrow hbE
            go_wp2
            go_roundw
            case rel => exact ⟨j - 1, _, q + 2, by omega, by go_num, HOE.out, Lib.hid (by simp; omega), Lib.hid (few_push hfew.out (by first | omega | (simp only [ByteArray.size_append]; first | omega | (have z1 : (ByteArray.mk #[32]).size = 1 := rfl; have z2 : (ByteArray.mk #[62]).size = 1 := rfl; omega)))), by omega, HRE.out, HGE.out⟩
            case measure => simp [intOf]; omega
          · have e0' : (r6 == 0) = false := by simp [e0]
            by_cases e1 : r6 = 1
            · subst e1
              clear e0 e0'
              go_wp2_with fail
              refine (pick_any 2 B g n c (q + 1) ao _ hR6 (by omega) (by omega)).mono ?_
              rintro e w7 ⟨r7, rfl, hr70, hr71, hR7, hg7⟩
              have hr74 := hr71 (by omega)
              obtain ⟨r7, rfl⟩ := Int.eq_ofNat_of_zero_le hr70
              have HO7 := Lib.hid (HO6.out.read hg7 hgw)
              have HG7 := Lib.hid (grown_tr HG6.out hg7)
              clear hg7
              go_wp2_with fail
              refine (sspaces_at _ (1 + r7) (by first | rfl | go_num | omega) _ (by omega)).mono ?_
              rintro e w' ⟨rfl, rfl⟩
              have htz7 := pl.spB_size (1 + r7)
              obtain ⟨t7, HT7⟩ : ∃ t, Hid (pl.spB (1 + r7) = t) := ⟨_, Lib.hid rfl⟩
              rw [HT7.out] at htz7 ⊢
              have hsz0 := HG7.out.size
              have hll0 := hll.out
              go_wp2_with (at_builtin; refine wpList_append_own _ rfl _ _ 23 rfl w.heap.size 9 i0 (.string ByteArray.empty) 1 16 Tryd.underlying23 hi hz0 hz1 hz2 rfl (by decide) _ _ _ rfl (World.ownsRow.alloc HO7.out _) ⟨_, 0, none⟩ 1 1 [.string (s ++ t7)] rfl rfl ?cA1 ?cA2 ?cA3 ?cA4 ?cA5 ?_)
              case cA1 => exact cell_one_new _ _ _
              case cA2 => intro u hu; simp at hu; subst hu; rfl
              case cA3 => unfold maxLen; omega
              case cA4 => omega
              case cA5 => simp; omega
              intro v' wE hown' hgrow _
              have hbE : Below w.heap.size w7 wE := ((Below.refl _ _).alloc hsz0 _).grown hgrow (by simp; omega) (fun k hk => (World.ownsRow.lt HO7.out k hk).1)
              have HOE := Lib.hid (OStrs.push1 hown')
              have HGE := Lib.hid (grown_then HG7.out hbE)
              have HRE := Lib.hid (hR7.below (C := w.heap.size) (by omega) hgw hbE)
              clear hown' hgrow hbE
              go_wp2
              go_roundw
              case rel => exact ⟨j - 1, _, q + 2, by omega, by go_num, HOE.out, Lib.hid (by simp; omega), Lib.hid (few_push hfew.out (by first | omega | (simp only [ByteArray.size_append]; first | omega | (have z1 : (ByteArray.mk #[32]).size = 1 := rfl; have z2 : (ByteArray.mk #[62]).size = 1 := rfl; omega)))), by omega, HRE.out, HGE.out⟩
              case measure => simp [intOf]; omega
            · have e1' : (r6 == 1) = false := by simp [e1]
              by_cases e2 : r6 = 2
              · subst e2
                clear e0 e0' e1 e1'
                go_wp2_with fail
                refine (of_lit 2 3 _ rfl (by omega) (by omega) ?_ B g n c (q + 1) ao _ hR6 (by omega)).mono ?_
                · simp [okStrs, ByteArray.size_mk']
                rintro e w7 ⟨s7, rfl, hs7, p7, hp7, hR7, hg7⟩
                have HO7 := Lib.hid (HO6.out.read hg7 hgw)
                have HG7 := Lib.hid (grown_tr HG6.out hg7)
                clear hg7
                have hsz0 := HG7.out.size
                have hll0 := hll.out
                go_wp2_with (at_builtin; refine wpList_append_own _ rfl _ _ 23 rfl w.heap.size 9 i0 (.string ByteArray.empty) 1 16 Tryd.underlying23 hi hz0 hz1 hz2 rfl (by decide) _ _ _ rfl (World.ownsRow.alloc HO7.out _) ⟨_, 0, none⟩ 1 1 [.string (⟨#[62]⟩ ++ s7 ++ s)] rfl rfl ?cA1 ?cA2 ?cA3 ?cA4 ?cA5 ?_)
                case cA1 => exact cell_one_new _ _ _
                case cA2 => intro u hu; simp at hu; subst hu; rfl
                case cA3 => unfold maxLen; omega
                case cA4 => omega
                case cA5 => simp; omega
                intro v' wE hown' hgrow _
                have hbE : Below w.heap.size w7 wE := ((Below.refl _ _).alloc hsz0 _).grown hgrow (by simp; omega) (fun k hk => (World.ownsRow.lt HO7.out k hk).1)
                have HOE := Lib.hid (OStrs.push1 hown')
                have HGE := Lib.hid (grown_then HG7.out hbE)
                have HRE := Lib.hid (hR7.below (C := w.heap.size) (by omega) hgw hbE)
                clear hown' hgrow hbE
                go_wp2
                go_roundw
                case rel => exact ⟨j - 1, _, p7, by omega, by go_num, HOE.out, Lib.hid (by simp; omega), Lib.hid (few_push hfew.out (by first | omega | (simp only [ByteArray.size_append]; first | omega | (have z1 : (ByteArray.mk #[32]).size = 1 := rfl; have z2 : (ByteArray.mk #[62]).size = 1 := rfl; omega)))), by omega, HRE.out, HGE.out⟩
                case measure => simp [intOf]; omega
              · have e2' : (r6 == 2) = false := by simp [e2]
                have hsz0 := HG6.out.size
                have hll0 := hll.out
                go_wp2_with (at_builtin; refine wpList_append_own _ rfl _ _ 23 rfl w.heap.size 9 i0 (.string ByteArray.empty) 1 16 Tryd.underlying23 hi hz0 hz1 hz2 rfl (by decide) _ _ _ rfl (World.ownsRow.alloc HO6.out _) ⟨_, 0, none⟩ 1 1 [.string (s)] rfl rfl ?cA1 ?cA2 ?cA3 ?cA4 ?cA5 ?_)
                case cA1 => exact cell_one_new _ _ _
                case cA2 => intro u hu; simp at hu; subst hu; rfl
                case cA3 => unfold maxLen; omega
                case cA4 => omega
                case cA5 => simp; omega
                intro v' wE hown' hgrow _
                have hbE : Below w.heap.size w6 wE := ((Below.refl _ _).alloc hsz0 _).grown hgrow (by simp; omega) (fun k hk => (World.ownsRow.lt HO6.out k hk).1)
                have HOE := Lib.hid (OStrs.push1 hown')
                have HGE := Lib.hid (grown_then HG6.out hbE)
                have HRE := Lib.hid (hR6.below (C := w.heap.size) (by omega) hgw hbE)
                clear hown' hgrow hbE
                go_wp2
                go_roundw
                case rel => exact ⟨j - 1, _, q + 1, by omega, by go_num, HOE.out, Lib.hid (by simp; omega), Lib.hid (few_push hfew.out (by first | omega | (simp only [ByteArray.size_append]; first | omega | (have z1 : (ByteArray.mk #[32]).size = 1 := rfl; have z2 : (ByteArray.mk #[62]).size = 1 := rfl; omega)))), by omega, HRE.out, HGE.out⟩
                case measure => simp [intOf]; omega
    · obtain rfl : j = 0 := by omega
      go_wp2_with fail
      refine (pick_any 30 B g n c p' ao _ hR (by omega) (by omega)).mono ?_
      rintro e w2 ⟨r, rfl, hr0, hr1, hR2, hg2⟩
      have HO2 := Lib.hid (HO.out.read hg2 hgw)
      have HG2 := Lib.hid (grown_tr HG.out hg2)
      clear hg2
      by_cases hr : r = 0
      · subst hr
        have hsz0 := HG2.out.size
        have hll0 := hll.out
        go_wp2_with (at_builtin; refine wpList_append_own _ rfl _ _ 23 rfl w.heap.size 9 i0 (.string ByteArray.empty) 1 16 Tryd.underlying23 hi hz0 hz1 hz2 rfl (by decide) _ _ _ rfl (World.ownsRow.alloc HO2.out _) ⟨_, 0, none⟩ 1 1 [.string (⟨#[9]⟩)] rfl rfl ?cA1 ?cA2 ?cA3 ?cA4 ?cA5 ?_)
        case cA1 => exact cell_one_new _ _ _
        case cA2 => intro u hu; simp at hu; subst hu; rfl
        case cA3 => unfold maxLen; omega
        case cA4 => omega
        case cA5 => simp; omega
        intro v' wE hown' hgrow _
        have hbE : Below w.heap.size w2 wE := ((Below.refl _ _).alloc hsz0 _).grown hgrow (by simp; omega) (fun k hk => (World.ownsRow.lt HO2.out k hk).1)
        have HOE := Lib.hid (OStrs.push1 hown')
        have HGE := Lib.hid (grown_then HG2.out hbE)
        have HRE := Lib.hid (hR2.below (C := w.heap.size) (by omega) hgw hbE)
        clear hown' hgrow hbE
        go_wp2
        go_ret
        exact ⟨_, _, rfl, HOE.out, by have := hll.out; simp; omega, few_push hfew.out (by show 1 ≤ _; omega), p' + 1, by omega, HRE.out, HGE.out⟩
      · have hr' : (r == 0) = false := by simp [hr]
        go_wp2_with fail
        go_ret
        exact ⟨_, _, rfl, HO2.out, by have := hll.out; omega, hfew.out, p' + 1, by omega, hR2, HG2.out⟩
end Go.Proofs.YtkbfceahhginhaaRRRRDoorRRRR
