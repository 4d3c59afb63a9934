/- The walk of FnExactWordsOf. -/
import Derived.Test.YtcghlhjlfppllaaWords
import Derived.Test.YtcghlhjlfppllaaMark
namespace Go.Proofs.Ytcghlhjlfppllaa
open Go.RowKit

theorem eqStringS_same (l : List ByteArray) (va vb : Value) (w : World) (hA : RStrs w va l) (hB : RStrs w vb l) (hl : l.length ≤ 2000000) :
    Calls Try.prog 33 #[va, vb] w fun e w' => e = .returned (.bool true) ∧ Below w.heap.size w w' :=
  (eqStringS_any l l va vb w hA hB hl).mono fun e w' ⟨h1, h2⟩ => ⟨by rw [h1]; simp, h2⟩

/-- an owned slice stays while another one is marked that was made later -/
theorem OStrs.marked {B C : Nat} {w w' : World} {v u : Value} {l l' : List ByteArray} (h : OStrs B w v l) (hlt : ∀ k, v.ownBlock = some k → k < C) (hu : OStrs C w u l') (hg : w.grownBy w' u.ownBlock) : OStrs B w' v l := by
  refine World.ownsRow.kept h hg ?_
  cases hv : v.ownBlock with
  | none => exact .inl rfl
  | some k =>
    right
    intro e
    have h1 := hlt k hv
    have h2 := (World.ownsRow.lt hu k e.symm).1
    omega

theorem wordsOf_len (s : ByteArray) : (pl.wordsOf s).length ≤ 120 := by
  by_cases hv : pl.validT s.data.toList = true
  · rw [pl.wordsOf_ok hv]
    unfold pl.wordsB
    rw [List.length_map]
    have h1 := pl.wordsL_len s.data.toList
    have h2 := pl.validT_size hv
    rw [pl.len_eq] at h1
    omega
  · rw [pl.wordsOf_no (by simpa using hv)]; simp

set_option maxHeartbeats 1000000 in
theorem fnExactWordsOf_walk (s : ByteArray) (hs : s.size ≤ maxLen) (w : World) :
    Calls Try.prog 9 #[.string s] w fun e w' => e = .returned (.bool true) ∧ Below w.heap.size w w' := by
  have hs' := hs
  unfold maxLen at hs'
  by_cases hb : 1048576 < s.size
  · go_enter Try.func9, Try.ntmps9
    go_wp2
    go_ret
    exact ⟨rfl, Below.refl _ _⟩
  · have hL := wordsOf_len s
    obtain ⟨L, hLe⟩ : ∃ L, Hid (pl.wordsOf s = L) := ⟨_, Lib.hid rfl⟩
    rw [hLe.out] at hL
    go_enter Try.func9, Try.ntmps9
    go_wp2_with fail
    refine (sWordsOf_any _ _ hs).mono ?_
    rintro e w1 ⟨v0, rfl, ho0, hb1⟩
    rw [hLe.out] at ho0
    go_wp2_with fail
    refine (iWordsOf_any _ _ hs).mono ?_
    rintro e w2 ⟨v1, rfl, ho1, hb2⟩
    rw [hLe.out] at ho1
    have lt0 : ∀ k, v0.ownBlock = some k → k < w1.heap.size := fun k hk => (World.ownsRow.lt ho0 k hk).2
    have ho0' := OStrs.below ho0 (Nat.le_refl _) hb2
    go_wp2_with fail
    refine (eqStringS_same L _ _ _ ho1.reads ho0'.reads (by omega)).mono ?_
    rintro e w3 ⟨rfl, hb3⟩
    have ho0'' := OStrs.below ho0' (Nat.le_refl _) hb3
    have ho1' := OStrs.below ho1 (Nat.le_refl _) hb3
    go_wp2_with fail
    refine (markStringS_any w1.heap.size 1 v1 L _ ho1' (by omega) (by omega)).mono ?_
    rintro e w4 ⟨rfl, hm4, hg4⟩
    have ho04 := OStrs.marked ho0'' lt0 ho1' hg4
    go_wp2_with fail
    refine (heldStringS_any 1 L.length v1 _ hm4.reads (by omega) (by omega)).mono ?_
    rintro e w5 ⟨rfl, hb5⟩
    have ho05 := OStrs.below ho04 (Nat.le_refl _) hb5
    have ho15 := OStrs.below hm4 (Nat.le_refl _) hb5
    go_wp2_with fail
    refine (iWordsOf_any _ _ hs).mono ?_
    rintro e w6 ⟨v2, rfl, ho2, hb6⟩
    rw [hLe.out] at ho2
    have ho06 := OStrs.below ho05 (Nat.le_refl _) hb6
    have ho16 := OStrs.below ho15 (Nat.le_refl _) hb6
    go_wp2_with fail
    refine (eqStringS_same L _ _ _ ho2.reads ho06.reads (by omega)).mono ?_
    rintro e w7 ⟨rfl, hb7⟩
    have ho17 := OStrs.below ho16 (Nat.le_refl _) hb7
    go_wp2_with fail
    refine (heldStringS_any 1 L.length v1 _ ho17.reads (by omega) (by omega)).mono ?_
    rintro e w8 ⟨rfl, hb8⟩
    go_wp2_with fail
    go_ret
    have s1 := hb1.size
    have s2 := hb2.size
    have s3 := hb3.size
    have s4 := hg4.size
    have s5 := hb5.size
    have s6 := hb6.size
    have s7 := hb7.size
    have b4 : Below w.heap.size w3 w4 := below_of_grown hg4 (by omega) (fun g hg => by have := (World.ownsRow.lt ho1' g hg).1; omega)
    exact ⟨rfl, hb1.trans ((hb2.mono s1).trans ((hb3.mono (by omega)).trans (b4.trans ((hb5.mono (by omega)).trans ((hb6.mono (by omega)).trans ((hb7.mono (by omega)).trans (hb8.mono (by omega))))))))⟩
end Go.Proofs.Ytcghlhjlfppllaa
