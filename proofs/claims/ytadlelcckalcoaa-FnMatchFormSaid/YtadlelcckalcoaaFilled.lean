/- Contracts: readFilled, textOf, FillForm of the program. -/
import Derived.Test.YtadlelcckalcoaaPlainFl
import Derived.Test.YtadlelcckalcoaaVals
import Derived.Test.YtadlelcckalcoaaPlainOf
import Derived.Test.YtadlelcckalcoaaReadF
import Derived.Test.YtadlelcckalcoaaBuilder
import Derived.Shelf.Strings.BuilderK
namespace Go.Proofs.Ytadlelcckalcoaa
open Go.RowKit Go.Maps
set_option maxRecDepth 100000
set_option linter.unusedVariables false

def FilledPost (s : ByteArray) (fl : List pl.Pc) (w : World) (e : Ending) (w' : World) : Prop :=
  Below w.heap.size w w' ∧ ((∃ v m, e = .returned (.tuple #[v, m, .bool false]) ∧ (pl.formT s.data.toList = none ∨ ¬ pl.vF fl)) ∨ (∃ v ps b, e = .returned (.tuple #[v, .map (some b), .bool true]) ∧ pl.formT s.data.toList = some (pl.flatP ps) ∧ OPc w.heap.size w' v ps ∧ pl.PcsOk ps ∧ ps.length ≤ 120 ∧ pl.vF fl ∧ w.heap.size ≤ b ∧ MapV b 5 w' (pl.lookL (pl.toFL fl))))

theorem pc_mono {B B' : Nat} {w : World} {v : Value} {ps : List pl.Pc} (h : OPc B w v ps) (hB : B' ≤ B) : OPc B' w v ps := by
  refine ⟨h.1, ?_⟩
  rcases h.2 with hn | ⟨g, cap, cur, hv, hb, rest⟩
  · exact .inl hn
  · exact .inr ⟨g, cap, cur, hv, by omega, rest⟩

set_option maxHeartbeats 2000000 in
theorem readFilled_any (s : ByteArray) (fl : List pl.Pc) (v : Value) (w : World) (hs : s.size ≤ maxLen) (hm : MaxI w) (hr : RPc w v fl) (hl : fl.length ≤ 1048576) (hsz : ∀ i, i < fl.length → (pl.nthQ fl i).1.size ≤ 1048576 ∧ (pl.nthQ fl i).2.size ≤ 1048576) :
    Calls Try.prog 65 #[.string s, v] w (FilledPost s fl w) := by
  have HR := Lib.hid hr
  have HSZ := Lib.hid hsz
  clear hsz hr
  go_enter Try.func65, Try.ntmps65
  go_wp2_with fail
  refine (readForm_any s _ hs hm).mono ?_
  rintro e w1 ⟨hb1, hres⟩
  have HB1 := Lib.hid hb1
  clear hb1
  rcases hres with ⟨m, rfl, hno⟩ | ⟨v1, ps, rfl, hyes, ho, hok, hlp⟩
  · have HE := Lib.hid hno
    clear hno
    go_wp2_with fail
    go_ret3
    exact ⟨HB1.out, .inl ⟨_, _, rfl, .inl HE.out⟩⟩
  · have HE := Lib.hid hyes
    have HO := Lib.hid ho
    have HK := Lib.hid hok
    clear hyes ho hok
    go_wp2_with fail
    refine (valuesOf_any fl v w1 (HR.out.below (Nat.le_refl _) HB1.out) hl HSZ.out).mono ?_
    rintro e w2 ⟨hb2, hres⟩
    have HB2 := Lib.hid (HB1.out.trans (hb2.mono HB1.out.size))
    have HO2 := Lib.hid (HO.out.below hb2)
    clear hb2
    rcases hres with ⟨hno, rfl⟩ | ⟨hyes, b, hb, rfl, hmv⟩
    · have HN := Lib.hid hno
      clear hno
      go_wp2_with fail
      go_ret3
      exact ⟨HB2.out, .inl ⟨_, _, rfl, .inr HN.out⟩⟩
    · have HV := Lib.hid hyes
      have HM := Lib.hid hmv
      have hb' : Hid (w.heap.size ≤ b) := Lib.hid (Nat.le_trans HB1.out.size hb)
      clear hyes hmv hb
      go_wp2_with fail
      go_ret3
      exact ⟨HB2.out, .inr ⟨_, ps, b, rfl, HE.out, HO2.out, HK.out, hlp, HV.out, hb'.out, HM.out⟩⟩

theorem at_below {B b : Nat} {p : Value} {bs : List Value} {w w' : World} (h : BAt B b p bs w) (hb : Below w.heap.size w w') : BAt B b p bs w' := by
  obtain ⟨hB, v, hk, hown, hne⟩ := h
  refine ⟨hB, v, (hb.block b (Array.getElem?_eq_some_iff.1 hk).1).trans hk, ⟨hown.1, ?_⟩, hne⟩
  rcases hown.2 with hn | ⟨g, cap, cur, hv, hbg, hg, rest⟩
  · exact .inl hn
  · exact .inr ⟨g, cap, cur, hv, hbg, (hb.block g (Array.getElem?_eq_some_iff.1 hg).1).trans hg, rest⟩
theorem isB_below {B b : Nat} {bs : List Value} {w w' : World} (h : IsB B b bs w) (hb : Below w.heap.size w w') : IsB B b bs w' :=
  h.elim (fun x => .inl (at_below x hb)) (fun x => .inr (at_below x hb))
theorem isB_alloc {B b : Nat} {bs : List Value} {w : World} (h : IsB B b bs w) (o : Obj) : IsB B b bs (w.alloc o) := isB_below h ((Below.refl _ _).alloc (Nat.le_refl _) o)
theorem b_lt {B b : Nat} {bs : List Value} {w : World} (h : IsB B b bs w) : B ≤ b ∧ b < w.heap.size := by
  rcases h with h | h <;> exact ⟨h.1, Lib.BuilderAt.lt h⟩
abbrev IsBF (B b : Nat) (bs : List Value) (w : World) : Prop := Lib.IsBuilderF 95 5 B b bs w
theorem atF_below {B b : Nat} {p : Value} {bs : List Value} {w w' : World} (h : Lib.BuilderAtF 95 5 B b p bs w) (hb : Below w.heap.size w w') : Lib.BuilderAtF 95 5 B b p bs w' := by
  obtain ⟨hB, v, hk, hown, hne⟩ := h
  refine ⟨hB, v, (hb.block b (Array.getElem?_eq_some_iff.1 hk).1).trans hk, ⟨hown.1, ?_⟩, hne⟩
  rcases hown.2 with hn | ⟨g, cap, cur, fz, hv, hbg, hg, rest⟩
  · exact .inl hn
  · exact .inr ⟨g, cap, cur, fz, hv, hbg, (hb.block g (Array.getElem?_eq_some_iff.1 hg).1).trans hg, rest⟩
theorem bf_below {B b : Nat} {bs : List Value} {w w' : World} (h : IsBF B b bs w) (hb : Below w.heap.size w w') : IsBF B b bs w' :=
  h.elim (fun x => .inl (atF_below x hb)) (fun x => .inr (atF_below x hb))
theorem bstring_k (B b : Nat) (l : List UInt8) (w : World) (h : IsBF B b (Lib.byteCells l) w) (hBw : B ≤ w.heap.size) :
    Calls Try.prog 89 #[.pointer (some ⟨b, 0, none⟩)] w fun e w' => e = .returned (.string ⟨l.toArray⟩) ∧ (IsBF B b (Lib.byteCells l) w' ∧ Below B w w' ∧ Lib.OthersKept 5 (some b) w w') :=
  Any.Builder_String_any_k Try.lays169 Try.Builder_Extra_169 B b l w h hBw

def TextPost (o : List UInt8) (B : Nat) (w : World) (e : Ending) (w' : World) : Prop :=
  Below B w w' ∧ ((pl.validT o = true ∧ e = .returned (.tuple #[.string (pl.bs o), .bool true])) ∨ (pl.validT o = false ∧ e = .returned (.tuple #[.string ⟨#[]⟩, .bool false])))

set_option maxHeartbeats 1000000 in
theorem textOf_any (B b : Nat) (o : List UInt8) (w : World) (h : IsB B b (Lib.byteCells o) w) (hBw : B ≤ w.heap.size) (ho : o.length ≤ 1048576) :
    Calls Try.prog 68 #[.pointer (some ⟨b, 0, none⟩)] w (TextPost o B w) := by
  have HF : Hid (IsBF B b (Lib.byteCells o) w) := Lib.hid (Lib.IsBuilderF.of h)
  clear h
  go_enter Try.func68, Try.ntmps68
  go_wp2_with fail
  refine (bstring_k B b o w HF.out hBw).mono ?_
  rintro e w1 ⟨rfl, hf1, hb1, _⟩
  have HF1 := Lib.hid hf1
  have hs1 := hb1.size
  have HB1 := Lib.hid hb1
  clear hb1 hf1
  go_wp2_with fail
  refine (iValidText_any (pl.bs o) _ (by rw [pl.bs_size]; unfold maxLen; omega)).mono ?_
  rintro e w2 ⟨rfl, hb2⟩
  rw [pl.bs_data]
  have HB2 := Lib.hid (HB1.out.trans (hb2.mono (by omega)))
  have HF2 := Lib.hid (bf_below HF1.out hb2)
  have hs2 := hb2.size
  clear hb2
  cases hv : pl.validT o with
  | false =>
    have HV := Lib.hid hv
    clear hv
    go_wp2_with fail
    go_ret2
    exact ⟨HB2.out, .inr ⟨HV.out, rfl⟩⟩
  | true =>
    have HV := Lib.hid hv
    clear hv
    go_wp2_with fail
    refine (bstring_k B b o w2 HF2.out (by omega)).mono ?_
    rintro e w3 ⟨rfl, hf3, hb3, _⟩
    have HB3 := Lib.hid (HB2.out.trans hb3)
    clear hf3 hb3
    go_wp2_with fail
    go_ret2
    exact ⟨HB3.out, .inl ⟨HV.out, rfl⟩⟩
end Go.Proofs.Ytadlelcckalcoaa
