/-
  No cell of these rows narrows 'for every input' (looked for: loops, veiled, ifaces, maps, wideKeys, modest, calm, conditions, laid).
  DERIVED. THE GIVEN ROWS OF THIS SEAT. 6 by the template 'for every input the law returns true; each argument reads behind the call as it read before'; 0 by the template 'total and deterministic' (their statements: YtadlelcckalcoaaTotals.lean).
  GIVEN WITH THE SEED: the statements are not yours to turn. If you find one false, say at which input.
  Laid BY PROGRAM, IN A SANDBOX (cutbox-rows.mjs): the forced cells as the released guide's own fill.sh prints them over the translation 5048c947ba13583a… (all of the seat's roots in one cut). By AI agents, Wed Nov 11 2026. No macro, syntax, notation, axiom, sorry.
-/
import Derived.Test.YtadlelcckalcoaaChecked
import GoSem.Claim
import GoSem.ClaimJoined
import GoSem.ClaimMapViews
import Derived.JoinedTies
import Derived.KernelRfl
namespace Go.Proofs.Ytadlelcckalcoaa
/- THE CELL 'sum', in the pinned program and in every row, IS THE sha256 OF THE DUMP (.gsa) THAT YtadlelcckalcoaaProg.lean LOADS. Nothing in Lean hashes anything: it is a label: what it is worth is what the hold of that sum in a sandbox is worth. -/
noncomputable def Try.pinned : Pinned := { name := "ytadlelcckalcoaa", sum := "5048c947ba13583a2a60377e719e585db66ce551c14dc778e6587edf968d2eef", checked := Try.checked }
namespace Rows
def none {H : Type} : Left H := { results := [], args := [] }

/-- 'laws.FnWrapCells': WHATEVER THE INPUT: true; the input reads as it did. -/
def fnWrapCellsSpec : ChangeSpec := { name := "fnWrapCells", fn := fun _ => fun
  | [d] => { results := [.lit (.bool true)], args := [d] }
  | _ => none }
def fnWrapCellsRow : OpenClaim := { program := "ytadlelcckalcoaa", sum := "5048c947ba13583a2a60377e719e585db66ce551c14dc778e6587edf968d2eef", func := "loop.example/textsinlines/laws.FnWrapCells", spec := "fnWrapCells", inPlace := ["internal/bytealg.IndexByteString", "internal/bytealg.IndexString", "internal/abi.NoEscape", "internal/bytealg.MakeNoZero"], named := ["internal/bytealg.MaxLen"], apart := false }
def FnWrapCellsSaid : Prop := fnWrapCellsRow.holds Try.pinned (OpenSpec.ofChange fnWrapCellsSpec)

/-- ITS FALSE NEIGHBOUR: 'it returns false'. Refute it at one input. -/
def fnWrapCellsWrong : ChangeSpec := { name := "fnWrapCells", fn := fun _ => fun
  | [d] => { results := [.lit (.bool false)], args := [d] }
  | _ => none }
def FnWrapCellsWrongFalsely : Prop := fnWrapCellsRow.holds Try.pinned (OpenSpec.ofChange fnWrapCellsWrong)

/-- 'laws.FnMatchForm': WHATEVER THE INPUT: true; the input reads as it did. -/
def fnMatchFormSpec : ChangeSpec := { name := "fnMatchForm", fn := fun _ => fun
  | [d] => { results := [.lit (.bool true)], args := [d] }
  | _ => none }
def fnMatchFormRow : OpenClaim := { program := "ytadlelcckalcoaa", sum := "5048c947ba13583a2a60377e719e585db66ce551c14dc778e6587edf968d2eef", func := "loop.example/textsinlines/laws.FnMatchForm", spec := "fnMatchForm", inPlace := ["internal/bytealg.IndexByteString", "internal/bytealg.IndexString", "internal/abi.NoEscape"], recurses := true, named := ["internal/bytealg.MaxLen"], apart := false }
def FnMatchFormSaid : Prop := fnMatchFormRow.holds Try.pinned (OpenSpec.ofChange fnMatchFormSpec)

/-- ITS FALSE NEIGHBOUR: 'it returns false'. Refute it at one input. -/
def fnMatchFormWrong : ChangeSpec := { name := "fnMatchForm", fn := fun _ => fun
  | [d] => { results := [.lit (.bool false)], args := [d] }
  | _ => none }
def FnMatchFormWrongFalsely : Prop := fnMatchFormRow.holds Try.pinned (OpenSpec.ofChange fnMatchFormWrong)

/-- 'laws.FnExactWrapCells': WHATEVER THE INPUT: true; the input reads as it did. -/
def fnExactWrapCellsSpec : ChangeSpec := { name := "fnExactWrapCells", fn := fun _ => fun
  | [d1, d2] => { results := [.lit (.bool true)], args := [d1, d2] }
  | _ => none }
def fnExactWrapCellsRow : OpenClaim := { program := "ytadlelcckalcoaa", sum := "5048c947ba13583a2a60377e719e585db66ce551c14dc778e6587edf968d2eef", func := "loop.example/textsinlines/laws.FnExactWrapCells", spec := "fnExactWrapCells", inPlace := ["internal/bytealg.IndexByteString", "internal/bytealg.IndexString", "internal/abi.NoEscape", "internal/bytealg.MakeNoZero"], named := ["internal/bytealg.MaxLen"], apart := false }
def FnExactWrapCellsSaid : Prop := fnExactWrapCellsRow.holds Try.pinned (OpenSpec.ofChange fnExactWrapCellsSpec)

/-- ITS FALSE NEIGHBOUR: 'it returns false'. Refute it at one input. -/
def fnExactWrapCellsWrong : ChangeSpec := { name := "fnExactWrapCells", fn := fun _ => fun
  | [d1, d2] => { results := [.lit (.bool false)], args := [d1, d2] }
  | _ => none }
def FnExactWrapCellsWrongFalsely : Prop := fnExactWrapCellsRow.holds Try.pinned (OpenSpec.ofChange fnExactWrapCellsWrong)

/-- 'laws.FnExactHolesOf': WHATEVER THE INPUT: true; the input reads as it did. -/
def fnExactHolesOfSpec : ChangeSpec := { name := "fnExactHolesOf", fn := fun _ => fun
  | [d] => { results := [.lit (.bool true)], args := [d] }
  | _ => none }
def fnExactHolesOfRow : OpenClaim := { program := "ytadlelcckalcoaa", sum := "5048c947ba13583a2a60377e719e585db66ce551c14dc778e6587edf968d2eef", func := "loop.example/textsinlines/laws.FnExactHolesOf", spec := "fnExactHolesOf", inPlace := ["internal/bytealg.IndexByteString", "internal/bytealg.IndexString"], named := ["internal/bytealg.MaxLen"], apart := false }
def FnExactHolesOfSaid : Prop := fnExactHolesOfRow.holds Try.pinned (OpenSpec.ofChange fnExactHolesOfSpec)

/-- ITS FALSE NEIGHBOUR: 'it returns false'. Refute it at one input. -/
def fnExactHolesOfWrong : ChangeSpec := { name := "fnExactHolesOf", fn := fun _ => fun
  | [d] => { results := [.lit (.bool false)], args := [d] }
  | _ => none }
def FnExactHolesOfWrongFalsely : Prop := fnExactHolesOfRow.holds Try.pinned (OpenSpec.ofChange fnExactHolesOfWrong)

/-- 'laws.FnExactFillForm': WHATEVER THE INPUT: true; the input reads as it did. -/
def fnExactFillFormSpec : ChangeSpec := { name := "fnExactFillForm", fn := fun _ => fun
  | [d1, d2] => { results := [.lit (.bool true)], args := [d1, d2] }
  | _ => none }
def fnExactFillFormRow : OpenClaim := { program := "ytadlelcckalcoaa", sum := "5048c947ba13583a2a60377e719e585db66ce551c14dc778e6587edf968d2eef", func := "loop.example/textsinlines/laws.FnExactFillForm", spec := "fnExactFillForm", inPlace := ["internal/bytealg.IndexByteString", "internal/bytealg.IndexString", "internal/abi.NoEscape"], named := ["internal/bytealg.MaxLen"], apart := false }
def FnExactFillFormSaid : Prop := fnExactFillFormRow.holds Try.pinned (OpenSpec.ofChange fnExactFillFormSpec)

/-- ITS FALSE NEIGHBOUR: 'it returns false'. Refute it at one input. -/
def fnExactFillFormWrong : ChangeSpec := { name := "fnExactFillForm", fn := fun _ => fun
  | [d1, d2] => { results := [.lit (.bool false)], args := [d1, d2] }
  | _ => none }
def FnExactFillFormWrongFalsely : Prop := fnExactFillFormRow.holds Try.pinned (OpenSpec.ofChange fnExactFillFormWrong)

/-- 'laws.FnExactMatchForm': WHATEVER THE INPUT: true; the input reads as it did. -/
def fnExactMatchFormSpec : ChangeSpec := { name := "fnExactMatchForm", fn := fun _ => fun
  | [d1, d2] => { results := [.lit (.bool true)], args := [d1, d2] }
  | _ => none }
def fnExactMatchFormRow : OpenClaim := { program := "ytadlelcckalcoaa", sum := "5048c947ba13583a2a60377e719e585db66ce551c14dc778e6587edf968d2eef", func := "loop.example/textsinlines/laws.FnExactMatchForm", spec := "fnExactMatchForm", inPlace := ["internal/bytealg.IndexByteString", "internal/bytealg.IndexString"], recurses := true, named := ["internal/bytealg.MaxLen"], apart := false }
def FnExactMatchFormSaid : Prop := fnExactMatchFormRow.holds Try.pinned (OpenSpec.ofChange fnExactMatchFormSpec)

/-- ITS FALSE NEIGHBOUR: 'it returns false'. Refute it at one input. -/
def fnExactMatchFormWrong : ChangeSpec := { name := "fnExactMatchForm", fn := fun _ => fun
  | [d1, d2] => { results := [.lit (.bool false)], args := [d1, d2] }
  | _ => none }
def FnExactMatchFormWrongFalsely : Prop := fnExactMatchFormRow.holds Try.pinned (OpenSpec.ofChange fnExactMatchFormWrong)

/- THE SECOND FORM. 'bulk': how many values and letters a reading holds, each counted each time it is reached (what is shared counts as often as it is met; a slice's spare places count too). A statement '..UptoSaid' is the law's where the arguments, and the package variables that the reading takes, are together of bulk at most 1048576: NARROWER than '..Said'. Prove '..Said' where nothing that the law and all that it calls make is longer than what came in: it says more and counts as full. Else prove '..UptoSaid'. A law counts once. -/
mutual
def uptoBulk {H : Type} : DataW H → Nat
  | .lit (.string bytes) => bytes.length + 1
  | .lit _ => 1
  | .nil => 1
  | .ptr d => uptoBulk d + 1
  | .slice elems spare => uptoBulkAll elems + uptoBulkAll spare + 1
  | .agg parts => uptoBulkAll parts + 1
  | .iface _ d => uptoBulk d + 1
  | .map entries => uptoBulkEntries entries + 1
  | .held _ => 1
def uptoBulkAll {H : Type} : List (DataW H) → Nat
  | [] => 0
  | d :: r => uptoBulk d + uptoBulkAll r
def uptoBulkEntries {H : Type} : List (Lit × DataW H) → Nat
  | [] => 0
  | x :: r => uptoBulkEntry x + uptoBulkEntries r
def uptoBulkEntry {H : Type} : Lit × DataW H → Nat
  | (.string bytes, d) => bytes.length + uptoBulk d + 1
  | (_, d) => uptoBulk d + 1
 end
def uptoSmall : (H : Type) → List (DataW H) → Bool := fun _ ds => decide (uptoBulkAll ds ≤ 1048576)
def OpenSpec.upto (s : _root_.Go.ChangeSpec) : _root_.Go.OpenSpec := { _root_.Go.OpenSpec.ofChange s with cond := some uptoSmall }

/-- 'laws.FnWrapCells', WHERE WHAT IT READS IS OF BULK AT MOST 1048576: true; the input reads as it did. -/
def fnWrapCellsUptoRow : OpenClaim := { program := "ytadlelcckalcoaa", sum := "5048c947ba13583a2a60377e719e585db66ce551c14dc778e6587edf968d2eef", func := "loop.example/textsinlines/laws.FnWrapCells", spec := "fnWrapCells", inPlace := ["internal/bytealg.IndexByteString", "internal/bytealg.IndexString", "internal/abi.NoEscape", "internal/bytealg.MakeNoZero"], named := ["internal/bytealg.MaxLen"], apart := false, narrowed := true }
def FnWrapCellsUptoSaid : Prop := fnWrapCellsUptoRow.holds Try.pinned (OpenSpec.upto fnWrapCellsSpec)

/-- 'laws.FnMatchForm', WHERE WHAT IT READS IS OF BULK AT MOST 1048576: true; the input reads as it did. -/
def fnMatchFormUptoRow : OpenClaim := { program := "ytadlelcckalcoaa", sum := "5048c947ba13583a2a60377e719e585db66ce551c14dc778e6587edf968d2eef", func := "loop.example/textsinlines/laws.FnMatchForm", spec := "fnMatchForm", inPlace := ["internal/bytealg.IndexByteString", "internal/bytealg.IndexString", "internal/abi.NoEscape"], recurses := true, named := ["internal/bytealg.MaxLen"], apart := false, narrowed := true }
def FnMatchFormUptoSaid : Prop := fnMatchFormUptoRow.holds Try.pinned (OpenSpec.upto fnMatchFormSpec)

/-- 'laws.FnExactWrapCells', WHERE WHAT IT READS IS OF BULK AT MOST 1048576: true; the input reads as it did. -/
def fnExactWrapCellsUptoRow : OpenClaim := { program := "ytadlelcckalcoaa", sum := "5048c947ba13583a2a60377e719e585db66ce551c14dc778e6587edf968d2eef", func := "loop.example/textsinlines/laws.FnExactWrapCells", spec := "fnExactWrapCells", inPlace := ["internal/bytealg.IndexByteString", "internal/bytealg.IndexString", "internal/abi.NoEscape", "internal/bytealg.MakeNoZero"], named := ["internal/bytealg.MaxLen"], apart := false, narrowed := true }
def FnExactWrapCellsUptoSaid : Prop := fnExactWrapCellsUptoRow.holds Try.pinned (OpenSpec.upto fnExactWrapCellsSpec)

/-- 'laws.FnExactHolesOf', WHERE WHAT IT READS IS OF BULK AT MOST 1048576: true; the input reads as it did. -/
def fnExactHolesOfUptoRow : OpenClaim := { program := "ytadlelcckalcoaa", sum := "5048c947ba13583a2a60377e719e585db66ce551c14dc778e6587edf968d2eef", func := "loop.example/textsinlines/laws.FnExactHolesOf", spec := "fnExactHolesOf", inPlace := ["internal/bytealg.IndexByteString", "internal/bytealg.IndexString"], named := ["internal/bytealg.MaxLen"], apart := false, narrowed := true }
def FnExactHolesOfUptoSaid : Prop := fnExactHolesOfUptoRow.holds Try.pinned (OpenSpec.upto fnExactHolesOfSpec)

/-- 'laws.FnExactFillForm', WHERE WHAT IT READS IS OF BULK AT MOST 1048576: true; the input reads as it did. -/
def fnExactFillFormUptoRow : OpenClaim := { program := "ytadlelcckalcoaa", sum := "5048c947ba13583a2a60377e719e585db66ce551c14dc778e6587edf968d2eef", func := "loop.example/textsinlines/laws.FnExactFillForm", spec := "fnExactFillForm", inPlace := ["internal/bytealg.IndexByteString", "internal/bytealg.IndexString", "internal/abi.NoEscape"], named := ["internal/bytealg.MaxLen"], apart := false, narrowed := true }
def FnExactFillFormUptoSaid : Prop := fnExactFillFormUptoRow.holds Try.pinned (OpenSpec.upto fnExactFillFormSpec)

/-- 'laws.FnExactMatchForm', WHERE WHAT IT READS IS OF BULK AT MOST 1048576: true; the input reads as it did. -/
def fnExactMatchFormUptoRow : OpenClaim := { program := "ytadlelcckalcoaa", sum := "5048c947ba13583a2a60377e719e585db66ce551c14dc778e6587edf968d2eef", func := "loop.example/textsinlines/laws.FnExactMatchForm", spec := "fnExactMatchForm", inPlace := ["internal/bytealg.IndexByteString", "internal/bytealg.IndexString"], recurses := true, named := ["internal/bytealg.MaxLen"], apart := false, narrowed := true }
def FnExactMatchFormUptoSaid : Prop := fnExactMatchFormUptoRow.holds Try.pinned (OpenSpec.upto fnExactMatchFormSpec)

end Rows
end Go.Proofs.Ytadlelcckalcoaa
