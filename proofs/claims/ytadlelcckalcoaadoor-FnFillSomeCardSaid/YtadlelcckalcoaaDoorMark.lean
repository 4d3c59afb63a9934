/- Contracts: marks are laid into slices of strings, and asked for (laws' markText, markStringS, heldStringS). -/
import Derived.Test.YtadlelcckalcoaaDoorEq
import Derived.Test.YtadlelcckalcoaaDoorPkA
import Derived.Laws.BytesArg
import Derived.Deep.RegionHeld3
namespace Go.Proofs.YtadlelcckalcoaaDoor.pl
theorem bs_app (a b : List UInt8) : bs a ++ bs b = bs (a ++ b) := ByteArray.mk_append_mk a b
def dig (m : Nat) : UInt8 := UInt8.ofNat (48 + m % 10)
def dstr (m : Nat) : ByteArray := bs [dig m]
theorem dstr_size (m : Nat) : (dstr m).size ≤ 1 := Nat.le_refl _
theorem dstr_app (m : Nat) (o : List UInt8) : dstr m ++ bs o = bs (dig m :: o) := bs_app _ _
/-- the digits of k, by fuel -/
def dgs : Nat → Nat → List UInt8
  | 0, _ => []
  | f + 1, k => if k = 0 then [] else dgs f (k / 10) ++ [dig k]
def mt (k : Nat) : ByteArray := bs [109] ++ bs (dgs 10 k)
/-- what holds at a round's head -/
def DInv (k0 m f : Nat) (out : List UInt8) : Prop := f ≤ 10 ∧ m < 10 ^ f ∧ out.length + f ≤ 10 ∧ dgs f m ++ out = dgs 10 k0
theorem dinv_start {k : Nat} (h : k < 10000000000) : DInv k k 10 [] := ⟨Nat.le_refl _, h, by simp, by simp⟩
theorem dinv_step {k0 m f : Nat} {out : List UInt8} (h : DInv k0 m f out) (hm : 0 < m) : ∃ f', DInv k0 (m / 10) f' (dig m :: out) := by
  obtain ⟨h1, h2, h3, h4⟩ := h
  cases f with
  | zero => simp at h2; omega
  | succ f =>
    refine ⟨f, by omega, ?_, by simp; omega, ?_⟩
    · rw [Nat.pow_succ] at h2; omega
    · rw [← h4]
      conv => rhs; unfold dgs
      rw [if_neg (by omega), List.append_assoc]; rfl
theorem dinv_done {k0 f : Nat} {out : List UInt8} (h : DInv k0 0 f out) : out = dgs 10 k0 := by
  rw [← h.2.2.2]
  cases f <;> simp [dgs]
end Go.Proofs.YtadlelcckalcoaaDoor.pl
namespace Go.Proofs.YtadlelcckalcoaaDoor
open Go.RowKit
set_option maxRecDepth 100000

theorem conv_one (w : World) (m : Nat) : (convert 22 9 (.slice (some ⟨w.heap.size, 0, none⟩) 1 1)).run Tryd.prog (w.alloc (.cells #[.int .u8 (48 + (m : Int) % 10)] 5)) = .ok (.string (pl.dstr m)) (w.alloc (.cells #[.int .u8 (48 + (m : Int) % 10)] 5)) := by
  rw [run_convert_bytes_arg (P := Tryd.prog) (w.alloc (.cells #[.int .u8 (48 + (m : Int) % 10)] 5)) 22 5 Tryd.underlying22 Tryd.underlying5 w.heap.size 0 1 1 [48 + (m : Int) % 10] rfl (fun i hi => by
    obtain rfl : i = 0 := by omega
    simp) 9 Tryd.underlying9]
  congr 2

theorem grown_trans {row : Option Nat} {a b c : World} (h : a.grownBy b row) (k : b.grownBy c row) : a.grownBy c row :=
  ⟨k.os.trans h.os, k.tape.trans h.tape, k.output.trans h.output, Nat.le_trans h.size k.size, fun i hi hn => (k.block i (Nat.lt_of_lt_of_le hi h.size) hn).trans (h.block i hi hn)⟩
theorem grown_below {row : Option Nat} {a b : World} (h : Below a.heap.size a b) : a.grownBy b row :=
  ⟨h.os, h.tape, h.output, h.size, fun i hi _ => h.block i hi⟩
theorem grown_refl {row : Option Nat} {a : World} : a.grownBy a row := ⟨rfl, rfl, rfl, Nat.le_refl _, fun _ _ _ => rfl⟩
theorem below_of_grown {B : Nat} {row : Option Nat} {a b : World} (h : a.grownBy b row) (hB : B ≤ a.heap.size) (hr : ∀ g, row = some g → B ≤ g) : Below B a b :=
  (Below.refl B a).grown h hB hr

/-- the marks of n elements, from k on -/
def marks (k n : Nat) : List ByteArray := (List.range n).map fun i => pl.mt (k + i)
theorem marks_len (k n : Nat) : (marks k n).length = n := by simp [marks]
theorem marks_nth {k n i : Nat} (h : i < n) : nth (marks k n) i = pl.mt (k + i) := by
  rw [nth_eq (by rw [marks_len]; exact h)]
  simp [marks]

theorem nth_set_same {l : List ByteArray} {j : Nat} {x : ByteArray} (h : j < l.length) : nth (l.set j x) j = x := by
  rw [nth_eq (by rw [List.length_set]; exact h)]; simp
theorem nth_set_other {l : List ByteArray} {j t : Nat} {x : ByteArray} (h : t < l.length) (hne : t ≠ j) : nth (l.set j x) t = nth l t := by
  rw [nth_eq (by rw [List.length_set]; exact h), nth_eq h, List.getElem_set_ne (Ne.symm hne)]

/-- the first j elements are marked -/
def MInv (k n j : Nat) (l : List ByteArray) : Prop := l.length = n ∧ ∀ t, t < j → t < n → nth l t = pl.mt (k + t)
theorem minv_start {k n : Nat} {l : List ByteArray} (h : l.length = n) : MInv k n 0 l := ⟨h, fun t ht => absurd ht (by omega)⟩
theorem minv_step {k n j : Nat} {l : List ByteArray} (h : MInv k n j l) (hj : j < n) : MInv k n (j + 1) (l.set j (pl.mt (k + j))) := by
  refine ⟨by rw [List.length_set]; exact h.1, fun t ht htn => ?_⟩
  by_cases e : t = j
  · subst e; exact nth_set_same (by rw [h.1]; exact hj)
  · rw [nth_set_other (by rw [h.1]; exact htn) e]; exact h.2 t (by omega) htn
theorem minv_done {k n : Nat} {l : List ByteArray} (h : MInv k n n l) : l = marks k n := by
  apply nth_ext (by rw [h.1, marks_len])
  intro i hi
  rw [h.1] at hi
  rw [marks_nth hi, h.2 i hi hi]

theorem own_cell {B g n cap j : Nat} {w : World} {l : List ByteArray} (h : w.ownsRow B 9 1 (.slice (some ⟨g, 0, none⟩) n cap) n (l.map Value.string)) (hl : l.length = n) (hj : j < n) : w.cell? ⟨g, j, none⟩ = some (.string (nth l j)) := by
  rw [World.ownsRow.cellAt h j (by omega), List.getElem?_map, List.getElem?_eq_getElem (by omega), nth_eq (by omega)]
  rfl
theorem own_store {B g n cap j : Nat} {w : World} {l : List ByteArray} (h : w.ownsRow B 9 1 (.slice (some ⟨g, 0, none⟩) n cap) n (l.map Value.string)) (x : ByteArray) :
    (w.setCell ⟨g, j, none⟩ (.string x)).ownsRow B 9 1 (.slice (some ⟨g, 0, none⟩) n cap) n ((l.set j x).map Value.string) ∧ w.grownBy (w.setCell ⟨g, j, none⟩ (.string x)) (some g) := by
  have := World.ownsRow.stored h j (.string x)
  rw [List.map_set]
  exact this

end Go.Proofs.YtadlelcckalcoaaDoor