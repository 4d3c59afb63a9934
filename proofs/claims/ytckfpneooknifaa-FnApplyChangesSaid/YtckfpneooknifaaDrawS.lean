/- Contracts: someWords, aWidth, and the draws made of them. -/
import Derived.Test.YtckfpneooknifaaDraw2
import Derived.Test.YtckfpneooknifaaPkB
namespace Go.Proofs.Ytckfpneooknifaa
open Go.RowKit
set_option maxRecDepth 100000

theorem grown_then {row : Option Nat} {a b c : World} (h : a.grownBy b row) (k : Below a.heap.size b c) : a.grownBy c row :=
  ⟨k.os.trans h.os, k.tape.trans h.tape, k.output.trans h.output, Nat.le_trans h.size k.size, fun i hi hn => (k.block i hi).trans (h.block i hi hn)⟩
theorem OStrs.read {B g : Nat} {w w' : World} {v : Value} {l : List ByteArray} (h : OStrs B w v l) (hg : w.grownBy w' (some g)) (hlt : g < B) : OStrs B w' v l := by
  refine World.ownsRow.kept h hg ?_
  cases hv : v.ownBlock with
  | none => exact .inl rfl
  | some k =>
    right
    intro e
    have h1 := (World.ownsRow.lt h k hv).1
    injection e with e
    omega
def few (M : Nat) (l : List ByteArray) : Prop := ∀ i, i < l.length → (nth l i).size ≤ M
theorem few_nil (M : Nat) : few M [] := fun i h => by simp at h
theorem few_push {M : Nat} {l : List ByteArray} {x : ByteArray} (h : few M l) (hx : x.size ≤ M) : few M (l ++ [x]) := by
  intro i hi
  by_cases e : i < l.length
  · have : nth (l ++ [x]) i = nth l i := by rw [nth_eq hi, nth_eq e, List.getElem_append_left e]
    rw [this]; exact h i e
  · have e2 : i = l.length := by simp at hi; omega
    subst e2
    rw [nth_eq hi]; simpa using hx

def GotWords (q B g n c : Nat) (ao : Option Addr) (w : World) (e : Ending) (w' : World) : Prop :=
  ∃ v l, e = .returned v ∧ OStrs w.heap.size w' v l ∧ l.length ≤ 10 ∧ few 20 l ∧ ∃ p', p' ≤ q ∧ Rdr B g n c p' ao w' ∧ w.grownBy w' (some g)

set_option maxHeartbeats 4000000 in
theorem someWords_any (B g n c p : Nat) (ao : Option Addr) (w : World) (h : Rdr B g n c p ao w) (hp : p ≤ 800000) :
    Calls Try.prog 56 #[.pointer (some ⟨g, 0, none⟩)] w (GotWords (p + 20) B g n c ao w) := by
  obtain ⟨i0, hi, hz0, hz1, hz2⟩ := info_parts infoS
  have hgw := h.lt
  have habove := h.above
  go_enter Try.func56, Try.ntmps56
  go_wp2_with fail
  have hR0 : Rdr B g n c p ao (w.alloc (.cells #[] 9)) := h.below (C := w.heap.size) (by omega) hgw ((Below.refl _ _).alloc (Nat.le_refl _) _)
  have ho0 : OStrs w.heap.size (w.alloc (.cells #[] 9)) (.slice (some ⟨w.heap.size, 0, none⟩) 0 0) [] := World.ownsRow_made _ _ _ (Nat.le_refl _) (by unfold maxLen; omega) rfl
  obtain ⟨w0, HW0⟩ : ∃ u, Hid (w.alloc (.cells #[] 9) = u) := ⟨_, Lib.hid rfl⟩
  have hg0 : w.grownBy w0 (some g) := by rw [← HW0.out]; exact grown_al w _
  have hsz1 : w0.heap.size = w.heap.size + 1 := by rw [← HW0.out]; simp
  rw [HW0.out] at hR0 ho0 ⊢
  rw [← hsz1]
  refine (one_lit 0 9 9 _ rfl (by omega) (by omega) ?_ B g n c p ao _ hR0 (by omega)).mono ?_
  · simp [okInts]
  rintro e w1 ⟨x, rfl, hx0, hx8, p1, hp1, hR1, hg1⟩
  obtain ⟨x, rfl⟩ := Int.eq_ofNat_of_zero_le hx0
  have ho1 := ho0.read hg1 hgw
  go_wp2_with fail
  go_loopw [3, 4] (fun lv cv wr => ∃ (j : Nat) (l : List ByteArray) (p' : Nat), j ≤ 9 ∧ cv = .int .i64 j ∧ OStrs w.heap.size wr lv l ∧ Hid (l.length ≤ 9 - j) ∧ Hid (few 20 l) ∧ p' ≤ p + 1 + (9 - j) ∧ Rdr B g n c p' ao wr ∧ w.grownBy wr (some g)) (fun _ cv _ => (intOf cv).toNat)
  case atStart => exact ⟨x, [], p1, by omega, rfl, ho1, Lib.hid (Nat.zero_le _), Lib.hid (few_nil _), by omega, hR1, grown_tr hg0 hg1⟩
  case round =>
    obtain ⟨j, l, p', hj, rfl, hown, hll, hfew, hp', hR, hgr⟩ := hrel
    have HO := Lib.hid hown
    have HG := Lib.hid hgr
    clear hown hgr
    by_cases h0 : 0 < j
    · have h0i : (0 : Int) < (j : Int) := by omega
      go_wp2_with fail
      refine (someWord_any B g n c p' ao _ hR (by omega)).mono ?_
      rintro e w2 ⟨s, rfl, hs, p2, hp2, hR2, hg2⟩
      have HO2 := Lib.hid (HO.out.read hg2 hgw)
      have HG2 := Lib.hid (grown_tr HG.out hg2)
      clear hg2
      have hsz0 := HG2.out.size
      have hll0 := hll.out
      go_wp2_with (at_builtin; refine wpList_append_own _ rfl _ _ 23 rfl w.heap.size 9 i0 (.string ByteArray.empty) 1 16 Try.underlying23 hi hz0 hz1 hz2 rfl (by decide) _ _ _ rfl (World.ownsRow.alloc HO2.out _) ⟨_, 0, none⟩ 1 1 [.string (s)] rfl rfl ?cA1 ?cA2 ?cA3 ?cA4 ?cA5 ?_)
      case cA1 => exact cell_one_new _ _ _
      case cA2 => intro u hu; simp at hu; subst hu; rfl
      case cA3 => unfold maxLen; omega
      case cA4 => omega
      case cA5 => simp; omega
      intro v' wE hown' hgrow _
      have hbE : Below w.heap.size w2 wE := ((Below.refl _ _).alloc hsz0 _).grown hgrow (by simp; omega) (fun k hk => (World.ownsRow.lt HO2.out k hk).1)
      have HOE := Lib.hid (OStrs.push1 hown')
      have HGE := Lib.hid (grown_then HG2.out hbE)
      have HRE := Lib.hid (hR2.below (C := w.heap.size) (by omega) hgw hbE)
      clear hown' hgrow hbE
      go_wp2
      go_roundw
      case rel => exact ⟨j - 1, _, p2, by omega, by go_num, HOE.out, Lib.hid (by simp; omega), Lib.hid (few_push hfew.out (by omega)), by omega, HRE.out, HGE.out⟩
      case measure => simp [intOf]; omega
    · obtain rfl : j = 0 := by omega
      go_wp2_with fail
      refine (pick_any 40 B g n c p' ao _ hR (by omega) (by omega)).mono ?_
      rintro e w2 ⟨r, rfl, hr0, hr1, hR2, hg2⟩
      have HO2 := Lib.hid (HO.out.read hg2 hgw)
      have HG2 := Lib.hid (grown_tr HG.out hg2)
      clear hg2
      have hsz0 := HG2.out.size
      have hll0 := hll.out
      by_cases e0 : r = 0
      · subst e0
        go_wp2_with (at_builtin; refine wpList_append_own _ rfl _ _ 23 rfl w.heap.size 9 i0 (.string ByteArray.empty) 1 16 Try.underlying23 hi hz0 hz1 hz2 rfl (by decide) _ _ _ rfl (World.ownsRow.alloc HO2.out _) ⟨_, 0, none⟩ 1 1 [.string ⟨#[]⟩] rfl rfl ?cA1 ?cA2 ?cA3 ?cA4 ?cA5 ?_)
        case cA1 => exact cell_one_new _ _ _
        case cA2 => intro u hu; simp at hu; subst hu; rfl
        case cA3 => unfold maxLen; omega
        case cA4 => omega
        case cA5 => simp; omega
        intro v' wE hown' hgrow _
        have hbE : Below w.heap.size w2 wE := ((Below.refl _ _).alloc hsz0 _).grown hgrow (by simp; omega) (fun k hk => (World.ownsRow.lt HO2.out k hk).1)
        have HOE := Lib.hid (OStrs.push1 hown')
        have HGE := Lib.hid (grown_then HG2.out hbE)
        have HRE := Lib.hid (hR2.below (C := w.heap.size) (by omega) hgw hbE)
        clear hown' hgrow hbE
        go_wp2
        go_ret
        exact ⟨_, _, rfl, HOE.out, by simp; omega, few_push hfew.out (by show 0 ≤ _; omega), p' + 1, by omega, HRE.out, HGE.out⟩
      · have e0' : (r == 0) = false := by simp [e0]
        by_cases e1 : r = 1
        · subst e1
          clear e0 e0'
          go_wp2_with (at_builtin; refine wpList_append_own _ rfl _ _ 23 rfl w.heap.size 9 i0 (.string ByteArray.empty) 1 16 Try.underlying23 hi hz0 hz1 hz2 rfl (by decide) _ _ _ rfl (World.ownsRow.alloc HO2.out _) ⟨_, 0, none⟩ 1 1 [.string ⟨#[97, 32, 98]⟩] rfl rfl ?cB1 ?cB2 ?cB3 ?cB4 ?cB5 ?_)
          case cB1 => exact cell_one_new _ _ _
          case cB2 => intro u hu; simp at hu; subst hu; rfl
          case cB3 => unfold maxLen; omega
          case cB4 => omega
          case cB5 => simp; omega
          intro v' wE hown' hgrow _
          have hbE : Below w.heap.size w2 wE := ((Below.refl _ _).alloc hsz0 _).grown hgrow (by simp; omega) (fun k hk => (World.ownsRow.lt HO2.out k hk).1)
          have HOE := Lib.hid (OStrs.push1 hown')
          have HGE := Lib.hid (grown_then HG2.out hbE)
          have HRE := Lib.hid (hR2.below (C := w.heap.size) (by omega) hgw hbE)
          clear hown' hgrow hbE
          go_wp2
          go_ret
          exact ⟨_, _, rfl, HOE.out, by simp; omega, few_push hfew.out (by show 3 ≤ _; omega), p' + 1, by omega, HRE.out, HGE.out⟩
        · have e1' : (r == 1) = false := by simp [e1]
          by_cases e2 : r = 2
          · subst e2
            clear e0 e0' e1 e1'
            go_wp2_with (at_builtin; refine wpList_append_own _ rfl _ _ 23 rfl w.heap.size 9 i0 (.string ByteArray.empty) 1 16 Try.underlying23 hi hz0 hz1 hz2 rfl (by decide) _ _ _ rfl (World.ownsRow.alloc HO2.out _) ⟨_, 0, none⟩ 1 1 [.string ⟨#[116, 104, 105, 114, 116, 101, 101, 110, 45, 98, 121, 116, 101]⟩] rfl rfl ?cC1 ?cC2 ?cC3 ?cC4 ?cC5 ?_)
            case cC1 => exact cell_one_new _ _ _
            case cC2 => intro u hu; simp at hu; subst hu; rfl
            case cC3 => unfold maxLen; omega
            case cC4 => omega
            case cC5 => simp; omega
            intro v' wE hown' hgrow _
            have hbE : Below w.heap.size w2 wE := ((Below.refl _ _).alloc hsz0 _).grown hgrow (by simp; omega) (fun k hk => (World.ownsRow.lt HO2.out k hk).1)
            have HOE := Lib.hid (OStrs.push1 hown')
            have HGE := Lib.hid (grown_then HG2.out hbE)
            have HRE := Lib.hid (hR2.below (C := w.heap.size) (by omega) hgw hbE)
            clear hown' hgrow hbE
            go_wp2
            go_ret
            exact ⟨_, _, rfl, HOE.out, by simp; omega, few_push hfew.out (by show 13 ≤ _; omega), p' + 1, by omega, HRE.out, HGE.out⟩
          · have e2' : (r == 2) = false := by simp [e2]
            go_wp2_with fail
            go_ret
            exact ⟨_, _, rfl, HO2.out, by omega, hfew.out, p' + 1, by omega, hR2, HG2.out⟩
end Go.Proofs.Ytckfpneooknifaa
