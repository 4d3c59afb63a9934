/- The cells of all columns at one place. -/
import Derived.Test.YtpfheanpbbfpdaaDoorPairs
import Derived.Test.YtpfheanpbbfpdaaDoorLinesV
import Derived.Test.YtpfheanpbbfpdaaDoorPkB
namespace Go.Proofs.YtpfheanpbbfpdaaDoor
open Go.RowKit
set_option maxRecDepth 100000
set_option linter.unusedVariables false

/-- the cells of the first n columns at place i, and "" for the others -/
def acrV (f : Nat → List ByteArray) (i n k : Nat) : ByteArray := if k < n then nth (f k) i else ByteArray.empty
def acrB (f : Nat → List ByteArray) (i n : Nat) : List ByteArray := [acrV f i n 0, acrV f i n 1, acrV f i n 2, acrV f i n 3, acrV f i n 4]
def acrL (f : Nat → List ByteArray) (i n : Nat) : List Value := [.string (acrV f i n 0), .string (acrV f i n 1), .string (acrV f i n 2), .string (acrV f i n 3), .string (acrV f i n 4)]
theorem acrL_map (f : Nat → List ByteArray) (i n : Nat) : acrL f i n = (acrB f i n).map Value.string := rfl
theorem acrB_len (f : Nat → List ByteArray) (i n : Nat) : (acrB f i n).length = 5 := rfl
theorem acrB_nth {f : Nat → List ByteArray} {i n k : Nat} (hk : k < 5) : nth (acrB f i n) k = acrV f i n k := by
  match k, hk with
  | 0, _ => rfl
  | 1, _ => rfl
  | 2, _ => rfl
  | 3, _ => rfl
  | 4, _ => rfl
theorem acrL_get {f : Nat → List ByteArray} {i n k : Nat} (hk : k < 5) : (acrL f i n)[k]? = some (.string (acrV f i n k)) := by
  match k, hk with
  | 0, _ => rfl
  | 1, _ => rfl
  | 2, _ => rfl
  | 3, _ => rfl
  | 4, _ => rfl
theorem acrL_one (f : Nat → List ByteArray) (i n : Nat) : (acrL f i n).toArray.all (·.oneCell') = true := by
  rw [List.all_toArray]; rfl
theorem acrV_next {f : Nat → List ByteArray} {i k t : Nat} (h : t ≠ k) : acrV f i (k + 1) t = acrV f i k t := by
  unfold acrV
  by_cases h1 : t < k
  · rw [if_pos h1, if_pos (by omega)]
  · rw [if_neg h1, if_neg (by omega)]
theorem acrV_at (f : Nat → List ByteArray) (i k : Nat) : acrV f i (k + 1) k = nth (f k) i := by
  unfold acrV; rw [if_pos (by omega)]
theorem acrL_set {f : Nat → List ByteArray} {i k : Nat} {x : ByteArray} (hk : k < 5) (hx : nth (f k) i = x) : (acrL f i k).set k (.string x) = acrL f i (k + 1) := by
  subst hx
  apply List.ext_getElem?
  intro t
  by_cases ht : t < 5
  · rw [acrL_get ht]
    by_cases e : t = k
    · subst e
      rw [List.getElem?_set_self (by show t < 5; exact hk), acrV_at]
    · rw [List.getElem?_set_ne (fun h => e h.symm), acrL_get ht, acrV_next e]
  · rw [List.getElem?_eq_none (by rw [List.length_set]; show 5 ≤ t; omega), List.getElem?_eq_none (by show 5 ≤ t; omega)]

set_option maxHeartbeats 1000000 in
theorem iLineAt_any (l : List ByteArray) (v : Value) (i : Nat) (a : Int) (ha : a = i) (w : World) (hr : RStrs w v l) (hl : l.length ≤ 1048576) (hi : i ≤ 1048576) :
    Calls Tryd.prog 106 #[v, .int .i64 a] w fun e w' => e = .returned (.string (nth l i)) ∧ w = w' := by
  subst ha
  obtain ⟨n, HN⟩ : ∃ n, Hid (n = l.length) := ⟨_, Lib.hid rfl⟩
  have HR := Lib.hid hr
  obtain ⟨a0, c0, rfl⟩ := hr.slice
  rw [← HN.out] at HR hl ⊢
  clear hr
  by_cases h : n ≤ i
  · have he : Hid (nth l i = ByteArray.empty) := Lib.hid (pl.nth_over (by rw [← HN.out]; exact h))
    go_enter Tryd.func106, Tryd.ntmps106
    go_wp2_with fail
    go_ret
    exact ⟨by rw [he.out]; rfl, rfl⟩
  · have hlt : i < n := by omega
    obtain ⟨b1, o1, rfl, hx⟩ := HR.out.at HN.out (Below.refl _ _) hlt
    obtain ⟨x, HX⟩ : ∃ x, Hid (nth l i = x) := ⟨_, Lib.hid rfl⟩
    rw [HX.out] at hx
    go_enter Tryd.func106, Tryd.ntmps106
    go_wp2_with fail
    go_ret
    exact ⟨by rw [HX.out]; rfl, rfl⟩
theorem iLineAt_below (l : List ByteArray) (v : Value) (i : Nat) (a : Int) (ha : a = i) (w : World) (hr : RStrs w v l) (hl : l.length ≤ 1048576) (hi : i ≤ 1048576) :
    Calls Tryd.prog 106 #[v, .int .i64 a] w fun e w' => e = .returned (.string (nth l i)) ∧ Below w.heap.size w w' :=
  (iLineAt_any l v i a ha w hr hl hi).mono fun _ _ ⟨h1, h2⟩ => ⟨h1, h2 ▸ Below.refl _ _⟩

theorem addr_zero (g m : Nat) : (if m = 0 then (⟨g, 0, none⟩ : Addr) else (⟨g, 0, none⟩ : Addr).add (0 * 1)) = ⟨g, 0, none⟩ := by
  split
  · rfl
  · unfold Addr.add; simp
/-- the first k cells of an array, with room for all -/
theorem slice_row (w : World) (g k : Nat) (hk : k ≤ 5) : (Instr.sliceAt 68 (.pointer (some ⟨g, 0, none⟩)) none (some (.int .i64 (k : Int))) none).run Tryd.prog w = .ok (.slice (some ⟨g, 0, none⟩) k 5) w := by
  have e : Tryd.prog.arrayLen 68 = 5 := by kernel_rfl
  have hs : (sizeOf (Tryd.prog.elem 68)).run Tryd.prog w = .ok 1 w := by kernel_rfl
  rw [run_sliceAt_array_h w _ _ (by kernel_rfl) .i64 (k : Int) (by omega) (by rw [e]; omega), e, hs]
  show Result.ok (slicedAt ⟨g, 0, none⟩ 0 (k : Int).toNat 5 1) w = _
  unfold slicedAt
  rw [addr_zero, Int.toNat_natCast, Nat.sub_zero, Nat.sub_zero]
/-- the first k cells of an array, with no more room -/
theorem slice_row3 (w : World) (g k : Nat) (hk : k ≤ 5) : (Instr.sliceAt 68 (.pointer (some ⟨g, 0, none⟩)) none (some (.int .i64 (k : Int))) (some (.int .i64 (k : Int)))).run Tryd.prog w = .ok (.slice (some ⟨g, 0, none⟩) k k) w := by
  have e : Tryd.prog.arrayLen 68 = 5 := by kernel_rfl
  have hs : (sizeOf (Tryd.prog.elem 68)).run Tryd.prog w = .ok 1 w := by kernel_rfl
  rw [run_sliceAt_array_hm w _ _ (by kernel_rfl) .i64 .i64 (k : Int) (k : Int) (by omega) (by omega) (by rw [e]; omega), hs]
  show Result.ok (slicedAt ⟨g, 0, none⟩ 0 (k : Int).toNat (k : Int).toNat 1) w = _
  unfold slicedAt
  rw [addr_zero, Int.toNat_natCast, Nat.sub_zero]
end Go.Proofs.YtpfheanpbbfpdaaDoor
