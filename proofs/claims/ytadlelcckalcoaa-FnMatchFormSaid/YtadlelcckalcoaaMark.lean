/- Contracts: marks are laid into slices of strings, and asked for (laws' markText, markStringS, heldStringS). -/
import Derived.Test.YtadlelcckalcoaaEq
import Derived.Test.YtadlelcckalcoaaPkA
import Derived.Laws.BytesArg
import Derived.Deep.RegionHeld3
namespace Go.Proofs.Ytadlelcckalcoaa.pl
theorem bs_app (a b : List UInt8) : bs a ++ bs b = bs (a ++ b) := ByteArray.mk_append_mk a b
def dig (m : Nat) : UInt8 := UInt8.ofNat (48 + m % 10)
def dstr (m : Nat) : ByteArray := bs [dig m]
theorem dstr_size (m : Nat) : (dstr m).size ≤ 1 := Nat.le_refl _
theorem dstr_app (m : Nat) (o : List UInt8) : dstr m ++ bs o = bs (dig m :: o) := bs_app _ _
/-- the digits of k, by fuel -/
def dgs : Nat → Nat → List UInt8
  | 0, _ => []
  | f + 1, k => if k = 0 then [] else dgs f (k / 10) ++ [dig k]
def mt (k : Nat) : ByteArray := bs [109] ++ bs (dgs 10 k)
/-- what holds at a round's head -/
def DInv (k0 m f : Nat) (out : List UInt8) : Prop := f ≤ 10 ∧ m < 10 ^ f ∧ out.length + f ≤ 10 ∧ dgs f m ++ out = dgs 10 k0
theorem dinv_start {k : Nat} (h : k < 10000000000) : DInv k k 10 [] := ⟨Nat.le_refl _, h, by simp, by simp⟩
theorem dinv_step {k0 m f : Nat} {out : List UInt8} (h : DInv k0 m f out) (hm : 0 < m) : ∃ f', DInv k0 (m / 10) f' (dig m :: out) := by
  obtain ⟨h1, h2, h3, h4⟩ := h
  cases f with
  | zero => simp at h2; omega
  | succ f =>
    refine ⟨f, by omega, ?_, by simp; omega, ?_⟩
    · rw [Nat.pow_succ] at h2; omega
    · rw [← h4]
      conv => rhs; unfold dgs
      rw [if_neg (by omega), List.append_assoc]; rfl
theorem dinv_done {k0 f : Nat} {out : List UInt8} (h : DInv k0 0 f out) : out = dgs 10 k0 := by
  rw [← h.2.2.2]
  cases f <;> simp [dgs]
end Go.Proofs.Ytadlelcckalcoaa.pl
namespace Go.Proofs.Ytadlelcckalcoaa
open Go.RowKit
set_option maxRecDepth 100000

theorem conv_one (w : World) (m : Nat) : (convert 22 9 (.slice (some ⟨w.heap.size, 0, none⟩) 1 1)).run Try.prog (w.alloc (.cells #[.int .u8 (48 + (m : Int) % 10)] 5)) = .ok (.string (pl.dstr m)) (w.alloc (.cells #[.int .u8 (48 + (m : Int) % 10)] 5)) := by
  rw [run_convert_bytes_arg (P := Try.prog) (w.alloc (.cells #[.int .u8 (48 + (m : Int) % 10)] 5)) 22 5 Try.underlying22 Try.underlying5 w.heap.size 0 1 1 [48 + (m : Int) % 10] rfl (fun i hi => by
    obtain rfl : i = 0 := by omega
    simp) 9 Try.underlying9]
  congr 2

set_option maxHeartbeats 1000000 in
theorem markText_any (k : Nat) (w : World) (hk : 0 < k) (hk2 : k < 1000000000) :
    Calls Try.prog 69 #[.int .i64 k] w fun e w' => e = .returned (.string (pl.mt k)) ∧ Below w.heap.size w w' := by
  have hst := Lib.hid (pl.dinv_start (k := k) (by omega))
  have hk0 : decide (k = 0) = false := decide_eq_false (by omega)
  go_enter Try.func69, Try.ntmps69
  go_wp2
  go_loopw [0, 3] (fun kv out wr => ∃ (m f : Nat) (o : List UInt8), kv = .int .i64 m ∧ out = .string (pl.bs o) ∧ m ≤ k ∧ Hid (pl.DInv k m f o) ∧ Below w.heap.size w wr) (fun kv _ _ => (intOf kv).toNat)
  case atStart => exact ⟨k, 10, [], rfl, rfl, Nat.le_refl _, hst, Below.refl _ _⟩
  case round =>
    obtain ⟨m, f, o, rfl, rfl, hmk, hinv, hbel⟩ := hrel
    have hol : o.length ≤ 10 := by have := hinv.out.2.2.1; omega
    have hosz : (pl.bs o).size ≤ 10 := hol
    by_cases hm : 0 < m
    · obtain ⟨f', hinv'⟩ := pl.dinv_step hinv.out hm
      have hn := Lib.hid hinv'
      have hcv := conv_one wr m
      have hds := pl.dstr_size m
      clear hinv' hinv
      go_wp2
      go_roundw
      case rel => exact ⟨m / 10, f', pl.dig m :: o, by go_num, by rw [pl.dstr_app], by omega, hn, hbel.alloc hbel.size _⟩
      case measure => simp [intOf]; omega
    · obtain rfl : m = 0 := by omega
      have hn := Lib.hid (pl.dinv_done hinv.out)
      clear hinv
      go_wp2
      go_ret
      exact ⟨by rw [hn.out]; rfl, hbel⟩

theorem markText_at (a : Int) (k : Nat) (ha : a = k) (w : World) (hk : 0 < k) (hk2 : k < 1000000000) :
    Calls Try.prog 69 #[.int .i64 a] w fun e w' => e = .returned (.string (pl.mt k)) ∧ Below w.heap.size w w' := by
  subst ha
  exact markText_any k w hk hk2

theorem grown_trans {row : Option Nat} {a b c : World} (h : a.grownBy b row) (k : b.grownBy c row) : a.grownBy c row :=
  ⟨k.os.trans h.os, k.tape.trans h.tape, k.output.trans h.output, Nat.le_trans h.size k.size, fun i hi hn => (k.block i (Nat.lt_of_lt_of_le hi h.size) hn).trans (h.block i hi hn)⟩
theorem grown_below {row : Option Nat} {a b : World} (h : Below a.heap.size a b) : a.grownBy b row :=
  ⟨h.os, h.tape, h.output, h.size, fun i hi _ => h.block i hi⟩
theorem grown_refl {row : Option Nat} {a : World} : a.grownBy a row := ⟨rfl, rfl, rfl, Nat.le_refl _, fun _ _ _ => rfl⟩
theorem below_of_grown {B : Nat} {row : Option Nat} {a b : World} (h : a.grownBy b row) (hB : B ≤ a.heap.size) (hr : ∀ g, row = some g → B ≤ g) : Below B a b :=
  (Below.refl B a).grown h hB hr

/-- the marks of n elements, from k on -/
def marks (k n : Nat) : List ByteArray := (List.range n).map fun i => pl.mt (k + i)
theorem marks_len (k n : Nat) : (marks k n).length = n := by simp [marks]
theorem marks_nth {k n i : Nat} (h : i < n) : nth (marks k n) i = pl.mt (k + i) := by
  rw [nth_eq (by rw [marks_len]; exact h)]
  simp [marks]

theorem nth_set_same {l : List ByteArray} {j : Nat} {x : ByteArray} (h : j < l.length) : nth (l.set j x) j = x := by
  rw [nth_eq (by rw [List.length_set]; exact h)]; simp
theorem nth_set_other {l : List ByteArray} {j t : Nat} {x : ByteArray} (h : t < l.length) (hne : t ≠ j) : nth (l.set j x) t = nth l t := by
  rw [nth_eq (by rw [List.length_set]; exact h), nth_eq h, List.getElem_set_ne (Ne.symm hne)]

/-- the first j elements are marked -/
def MInv (k n j : Nat) (l : List ByteArray) : Prop := l.length = n ∧ ∀ t, t < j → t < n → nth l t = pl.mt (k + t)
theorem minv_start {k n : Nat} {l : List ByteArray} (h : l.length = n) : MInv k n 0 l := ⟨h, fun t ht => absurd ht (by omega)⟩
theorem minv_step {k n j : Nat} {l : List ByteArray} (h : MInv k n j l) (hj : j < n) : MInv k n (j + 1) (l.set j (pl.mt (k + j))) := by
  refine ⟨by rw [List.length_set]; exact h.1, fun t ht htn => ?_⟩
  by_cases e : t = j
  · subst e; exact nth_set_same (by rw [h.1]; exact hj)
  · rw [nth_set_other (by rw [h.1]; exact htn) e]; exact h.2 t (by omega) htn
theorem minv_done {k n : Nat} {l : List ByteArray} (h : MInv k n n l) : l = marks k n := by
  apply nth_ext (by rw [h.1, marks_len])
  intro i hi
  rw [h.1] at hi
  rw [marks_nth hi, h.2 i hi hi]

theorem own_cell {B g n cap j : Nat} {w : World} {l : List ByteArray} (h : w.ownsRow B 9 1 (.slice (some ⟨g, 0, none⟩) n cap) n (l.map Value.string)) (hl : l.length = n) (hj : j < n) : w.cell? ⟨g, j, none⟩ = some (.string (nth l j)) := by
  rw [World.ownsRow.cellAt h j (by omega), List.getElem?_map, List.getElem?_eq_getElem (by omega), nth_eq (by omega)]
  rfl
theorem own_store {B g n cap j : Nat} {w : World} {l : List ByteArray} (h : w.ownsRow B 9 1 (.slice (some ⟨g, 0, none⟩) n cap) n (l.map Value.string)) (x : ByteArray) :
    (w.setCell ⟨g, j, none⟩ (.string x)).ownsRow B 9 1 (.slice (some ⟨g, 0, none⟩) n cap) n ((l.set j x).map Value.string) ∧ w.grownBy (w.setCell ⟨g, j, none⟩ (.string x)) (some g) := by
  have := World.ownsRow.stored h j (.string x)
  rw [List.map_set]
  exact this

set_option maxHeartbeats 1000000 in
theorem markStringS_any (B k : Nat) (v : Value) (l : List ByteArray) (w : World) (hown : OStrs B w v l) (hk : 0 < k) (hk2 : k + l.length < 100000000) :
    Calls Try.prog 29 #[v, .int .i64 k] w fun e w' => e = .returned (.int .i64 ((k + l.length : Nat) : Int)) ∧ OStrs B w' v (marks k l.length) ∧ w.grownBy w' v.ownBlock := by
  have hown0 := hown
  rcases hown.2 with ⟨rfl, hn⟩ | ⟨g, cap, cur, rfl, hB, hg, hle, hm, hs, htake⟩
  · have hlen : l = [] := List.length_eq_zero_iff.1 hn
    subst hlen
    clear hown hown0
    go_enter Try.func29, Try.ntmps29
    go_wp2
    refine wp_loop_rounds 1 ?_
    rw [rounds_succ]
    go_wp2
    go_ret
    exact ⟨rfl, OStrs.nil _ _, grown_refl⟩
  · obtain ⟨n, hn⟩ : ∃ n, n = l.length := ⟨_, rfl⟩
    have hown1 : w.ownsRow B 9 1 (.slice (some ⟨g, 0, none⟩) n cap) n (l.map Value.string) := by rw [hn]; exact hown
    have HL := Lib.hid hn
    have hst := Lib.hid (minv_start (k := k) hn.symm)
    have hnm : n ≤ cap ∧ cap ≤ maxLen := ⟨by rw [hn]; exact hle, hm⟩
    rw [← hn] at hk2 ⊢
    clear hown hown0 htake hg hs hn hle hm
    go_enter Try.func29, Try.ntmps29
    go_wp2
    go_loopw [1, 5] (fun kv i wr => ∃ (j : Nat) (l' : List ByteArray), j ≤ n ∧ kv = .int .i64 ((k + j : Nat) : Int) ∧ i = .int .i64 j ∧ Hid (MInv k n j l') ∧ wr.ownsRow B 9 1 (.slice (some ⟨g, 0, none⟩) n cap) n (l'.map Value.string) ∧ w.grownBy wr (some g))
      (fun _ i _ => n - (intOf i).toNat)
    case atStart => exact ⟨0, l, Nat.zero_le _, rfl, rfl, hst, hown1, grown_refl⟩
    case round =>
      obtain ⟨j, l', hj, rfl, rfl, hinv, hown, hgr⟩ := hrel
      by_cases hlt : j < n
      · have hn := Lib.hid (minv_step hinv.out hlt)
        have hgl := (World.ownsRow.lt hown g rfl).2
        have hlen : Hid (l'.length = n) := Lib.hid hinv.out.1
        clear hinv
        go_wp2_with (go_at_call 69; refine (markText_at _ (k + j) (by omega) _ (by omega) (by omega)).mono ?_; rintro e w2 ⟨rfl, hb2⟩; have hown2 := Lib.hid (World.ownsRow.kept hown (grown_below (row := none) hb2) (.inr (by simp [Value.ownBlock]))); have hc2 := own_cell hown2.out hlen.out hlt; have hf2 := World.ownsRow.frozenAt hown2.out j)
        obtain ⟨ho3, hg3⟩ := own_store (j := j) hown2.out (pl.mt (k + j))
        go_roundw
        case rel => exact ⟨j + 1, _, by omega, by go_num, by go_num, hn, ho3, grown_trans (grown_trans hgr (grown_below hb2)) hg3⟩
        case measure => simp [intOf]; omega
      · obtain rfl : j = n := by omega
        have hn := Lib.hid (minv_done hinv.out)
        clear hinv
        go_wp2
        go_ret
        exact ⟨rfl, by unfold OStrs; rw [marks_len, ← hn.out]; exact hown, hgr⟩

set_option maxHeartbeats 1000000 in
theorem heldStringS_any (k n : Nat) (v : Value) (w : World) (hr : RStrs w v (marks k n)) (hk : 0 < k) (hk2 : k + n < 100000000) :
    Calls Try.prog 34 #[v, .int .i64 k] w fun e w' => e = .returned (.int .i64 ((k + n : Nat) : Int)) ∧ Below w.heap.size w w' := by
  rcases hr with ⟨hz, a, cap, rfl⟩ | ⟨hpos, b1, o1, c1, rfl, hb1, hc1⟩
  · have hn0 : n = 0 := by have := congrArg List.length hz; rw [marks_len] at this; simpa using this
    subst hn0
    clear hz
    go_enter Try.func34, Try.ntmps34
    go_wp2
    refine wp_loop_rounds 1 ?_
    rw [rounds_succ]
    go_wp2
    go_ret
    exact ⟨rfl, Below.refl _ _⟩
  · rw [marks_len] at hpos hc1 ⊢
    have HC := Lib.hid hc1
    clear hc1
    go_enter Try.func34, Try.ntmps34
    go_wp2
    go_loopw [1, 5] (fun kv i wr => ∃ j : Nat, j ≤ n ∧ kv = .int .i64 ((k + j : Nat) : Int) ∧ i = .int .i64 j ∧ Below w.heap.size w wr) (fun _ i _ => n - (intOf i).toNat)
    case atStart => exact ⟨0, Nat.zero_le _, rfl, rfl, Below.refl _ _⟩
    case round =>
      obtain ⟨j, hj, rfl, rfl, hbel⟩ := hrel
      by_cases hlt : j < n
      · have hx := (hbel.cell (p := ⟨b1, o1 + j, none⟩) hb1).trans (HC.out j hlt)
        rw [marks_nth hlt] at hx
        have hbw := hbel.size
        have hb1' : b1 < wr.heap.size := by omega
        go_wp2_with fail
        go_region_held3 (fun w' => w'.cell? ⟨b1, o1 + j, none⟩ = some (.string (pl.mt (k + j))) ∧ b1 < w'.heap.size ∧ Below wr.heap.size wr w')
          (first | exact ⟨by simpa using hx, by simpa using hb1', (Below.refl _ _).drew⟩ | exact ⟨(hb2.cell hb1').trans (by simpa using hx), Nat.lt_of_lt_of_le hb1' hb2.size, (Below.refl _ _).drew.trans hb2⟩)
          (first | (go_at_call 69; refine (markText_at _ (k + j) (by omega) _ (by omega) (by omega)).mono ?_; rintro e w2 ⟨rfl, hb2⟩))
        have hb3 : Below wr.heap.size wr w2 := (Below.refl _ _).drew.trans hb2
        go_wp2
        go_roundw
        case rel => exact ⟨j + 1, by omega, by go_num, by go_num, hbel.trans (hb3.mono hbw)⟩
        case measure => simp [intOf]; omega
      · obtain rfl : j = n := by omega
        go_wp2
        go_ret
        exact ⟨rfl, hbel⟩
end Go.Proofs.Ytadlelcckalcoaa