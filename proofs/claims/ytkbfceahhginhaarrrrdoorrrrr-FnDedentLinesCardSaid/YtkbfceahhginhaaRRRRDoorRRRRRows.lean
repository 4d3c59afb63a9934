/-
  NARROWER THAN 'FOR EVERY INPUT', by the rows' own cells (each row's printed sentence says how): FnDedentLines: laid · FnIndentLines: laid · FnUnquoteLine: laid · FnExactIndentLines: laid · FnExactUnquoteLine: laid.
  DERIVED. THE GIVEN ROWS OF THIS SEAT. 5 by the template 'for every input the law returns true; each argument reads behind the call as it read before'; 0 by the template 'total and deterministic' (their statements: YtkbfceahhginhaaRRRRDoorRRRRTotals.lean).
  GIVEN WITH THE SEED: the statements are not yours to turn. If you find one false, say at which input.
  Laid BY PROGRAM, IN A SANDBOX (cutbox-rows.mjs): the forced cells as the released guide's own fill.sh prints them over the translation 43e7750e39615075… (all of the seat's roots in one cut). By AI agents, Wed Nov 11 2026. No macro, syntax, notation, axiom, sorry.
-/
import Derived.Test.YtkbfceahhginhaaRRRRDoorRRRRChecked
import GoSem.PinnedTables
import GoSem.Claim
import GoSem.ClaimJoined
import GoSem.ClaimMapViews
import Derived.JoinedTies
import Derived.KernelRfl
namespace Go.Proofs.YtkbfceahhginhaaRRRRDoorRRRR
/- THE CELL 'sum', in the pinned program and in every row, IS THE sha256 OF THE DUMP (.gsa) THAT YtkbfceahhginhaaRRRRDoorRRRRProg.lean LOADS. Nothing in Lean hashes anything: it is a label: what it is worth is what the hold of that sum in a sandbox is worth. -/
noncomputable def Tryd.pinned : Pinned := { name := "ytkbfceahhginhaarrrrdoorrrrr", sum := "43e7750e3961507550cf2ca42e88bfe7de2669555b71f2c9fbf07bfa1cf69a84", checked := Tryd.checked }
namespace Rows
def none {H : Type} : Left H := { results := [], args := [] }

/- WHAT THE LISTED PACKAGE-LEVEL VARIABLES READ AS WHEN THE CALL BEGINS. Each datum BY PROGRAM (the guide's laid-datum.mjs) off the statement by which the dump's own 'gosem.cut.vars' lays the variable. In a bare row this is a premise. The card (YtkbfceahhginhaaRRRRDoorRRRRCards.lean) ties it to the program's text. -/
def laid_unicode_utf8_acceptRanges {H : Type} : DataW H := .agg [.agg [.lit (.int .u8 128), .lit (.int .u8 191)], .agg [.lit (.int .u8 160), .lit (.int .u8 191)], .agg [.lit (.int .u8 128), .lit (.int .u8 159)], .agg [.lit (.int .u8 144), .lit (.int .u8 191)], .agg [.lit (.int .u8 128), .lit (.int .u8 143)], .agg [.lit (.int .u8 0), .lit (.int .u8 0)], .agg [.lit (.int .u8 0), .lit (.int .u8 0)], .agg [.lit (.int .u8 0), .lit (.int .u8 0)], .agg [.lit (.int .u8 0), .lit (.int .u8 0)], .agg [.lit (.int .u8 0), .lit (.int .u8 0)], .agg [.lit (.int .u8 0), .lit (.int .u8 0)], .agg [.lit (.int .u8 0), .lit (.int .u8 0)], .agg [.lit (.int .u8 0), .lit (.int .u8 0)], .agg [.lit (.int .u8 0), .lit (.int .u8 0)], .agg [.lit (.int .u8 0), .lit (.int .u8 0)], .agg [.lit (.int .u8 0), .lit (.int .u8 0)]]
/-- One of Go's own tables, pinned by name: the form's constant. -/
def laid_unicode_utf8_first : DataW Unit := Go.Pinned.utf8First

/-- 'laws.FnDedentLines': WHATEVER THE INPUT: true; the input reads as it did. -/
def fnDedentLinesSpec : ChangeSpec := { name := "fnDedentLines", fn := fun _ => fun
  | [d] => { results := [.lit (.bool true)], args := [d] }
  | _ => none }
def fnDedentLinesRow : OpenClaim := { program := "ytkbfceahhginhaarrrrdoorrrrr", sum := "43e7750e3961507550cf2ca42e88bfe7de2669555b71f2c9fbf07bfa1cf69a84", func := "loop.example/textsinlines/laws.FnDedentLines", spec := "fnDedentLines", inPlace := ["internal/bytealg.IndexByteString", "internal/bytealg.IndexString", "internal/abi.NoEscape", "internal/bytealg.MakeNoZero"], unfollowed := true, recurses := true, named := ["unicode/utf8.first", "unicode/utf8.acceptRanges", "internal/bytealg.MaxLen"], apart := false, laid := [("unicode/utf8.acceptRanges", laid_unicode_utf8_acceptRanges), ("unicode/utf8.first", laid_unicode_utf8_first)] }
def FnDedentLinesSaid : Prop := fnDedentLinesRow.holds Tryd.pinned (OpenSpec.ofChange fnDedentLinesSpec)

/-- ITS FALSE NEIGHBOUR: 'it returns false'. Refute it at one input. -/
def fnDedentLinesWrong : ChangeSpec := { name := "fnDedentLines", fn := fun _ => fun
  | [d] => { results := [.lit (.bool false)], args := [d] }
  | _ => none }
def FnDedentLinesWrongFalsely : Prop := fnDedentLinesRow.holds Tryd.pinned (OpenSpec.ofChange fnDedentLinesWrong)

/-- 'laws.FnIndentLines': WHATEVER THE INPUT: true; the input reads as it did. -/
def fnIndentLinesSpec : ChangeSpec := { name := "fnIndentLines", fn := fun _ => fun
  | [d] => { results := [.lit (.bool true)], args := [d] }
  | _ => none }
def fnIndentLinesRow : OpenClaim := { program := "ytkbfceahhginhaarrrrdoorrrrr", sum := "43e7750e3961507550cf2ca42e88bfe7de2669555b71f2c9fbf07bfa1cf69a84", func := "loop.example/textsinlines/laws.FnIndentLines", spec := "fnIndentLines", inPlace := ["internal/abi.NoEscape", "internal/bytealg.MakeNoZero", "internal/bytealg.IndexByteString", "internal/bytealg.IndexString"], unfollowed := true, recurses := true, named := ["unicode/utf8.first", "unicode/utf8.acceptRanges", "internal/bytealg.MaxLen"], apart := false, laid := [("unicode/utf8.acceptRanges", laid_unicode_utf8_acceptRanges), ("unicode/utf8.first", laid_unicode_utf8_first)] }
def FnIndentLinesSaid : Prop := fnIndentLinesRow.holds Tryd.pinned (OpenSpec.ofChange fnIndentLinesSpec)

/-- ITS FALSE NEIGHBOUR: 'it returns false'. Refute it at one input. -/
def fnIndentLinesWrong : ChangeSpec := { name := "fnIndentLines", fn := fun _ => fun
  | [d] => { results := [.lit (.bool false)], args := [d] }
  | _ => none }
def FnIndentLinesWrongFalsely : Prop := fnIndentLinesRow.holds Tryd.pinned (OpenSpec.ofChange fnIndentLinesWrong)

/-- 'laws.FnUnquoteLine': WHATEVER THE INPUT: true; the input reads as it did. -/
def fnUnquoteLineSpec : ChangeSpec := { name := "fnUnquoteLine", fn := fun _ => fun
  | [d] => { results := [.lit (.bool true)], args := [d] }
  | _ => none }
def fnUnquoteLineRow : OpenClaim := { program := "ytkbfceahhginhaarrrrdoorrrrr", sum := "43e7750e3961507550cf2ca42e88bfe7de2669555b71f2c9fbf07bfa1cf69a84", func := "loop.example/textsinlines/laws.FnUnquoteLine", spec := "fnUnquoteLine", inPlace := ["internal/bytealg.IndexByteString", "internal/bytealg.IndexString"], named := ["unicode/utf8.first", "unicode/utf8.acceptRanges", "internal/bytealg.MaxLen"], apart := false, laid := [("unicode/utf8.acceptRanges", laid_unicode_utf8_acceptRanges), ("unicode/utf8.first", laid_unicode_utf8_first)] }
def FnUnquoteLineSaid : Prop := fnUnquoteLineRow.holds Tryd.pinned (OpenSpec.ofChange fnUnquoteLineSpec)

/-- ITS FALSE NEIGHBOUR: 'it returns false'. Refute it at one input. -/
def fnUnquoteLineWrong : ChangeSpec := { name := "fnUnquoteLine", fn := fun _ => fun
  | [d] => { results := [.lit (.bool false)], args := [d] }
  | _ => none }
def FnUnquoteLineWrongFalsely : Prop := fnUnquoteLineRow.holds Tryd.pinned (OpenSpec.ofChange fnUnquoteLineWrong)

/-- 'laws.FnExactIndentLines': WHATEVER THE INPUT: true; the input reads as it did. -/
def fnExactIndentLinesSpec : ChangeSpec := { name := "fnExactIndentLines", fn := fun _ => fun
  | [d1, d2] => { results := [.lit (.bool true)], args := [d1, d2] }
  | _ => none }
def fnExactIndentLinesRow : OpenClaim := { program := "ytkbfceahhginhaarrrrdoorrrrr", sum := "43e7750e3961507550cf2ca42e88bfe7de2669555b71f2c9fbf07bfa1cf69a84", func := "loop.example/textsinlines/laws.FnExactIndentLines", spec := "fnExactIndentLines", inPlace := ["internal/abi.NoEscape", "internal/bytealg.MakeNoZero", "internal/bytealg.IndexByteString", "internal/bytealg.IndexString"], unfollowed := true, recurses := true, named := ["unicode/utf8.first", "unicode/utf8.acceptRanges", "internal/bytealg.MaxLen"], apart := false, laid := [("unicode/utf8.acceptRanges", laid_unicode_utf8_acceptRanges), ("unicode/utf8.first", laid_unicode_utf8_first)] }
def FnExactIndentLinesSaid : Prop := fnExactIndentLinesRow.holds Tryd.pinned (OpenSpec.ofChange fnExactIndentLinesSpec)

/-- ITS FALSE NEIGHBOUR: 'it returns false'. Refute it at one input. -/
def fnExactIndentLinesWrong : ChangeSpec := { name := "fnExactIndentLines", fn := fun _ => fun
  | [d1, d2] => { results := [.lit (.bool false)], args := [d1, d2] }
  | _ => none }
def FnExactIndentLinesWrongFalsely : Prop := fnExactIndentLinesRow.holds Tryd.pinned (OpenSpec.ofChange fnExactIndentLinesWrong)

/-- 'laws.FnExactUnquoteLine': WHATEVER THE INPUT: true; the input reads as it did. -/
def fnExactUnquoteLineSpec : ChangeSpec := { name := "fnExactUnquoteLine", fn := fun _ => fun
  | [d] => { results := [.lit (.bool true)], args := [d] }
  | _ => none }
def fnExactUnquoteLineRow : OpenClaim := { program := "ytkbfceahhginhaarrrrdoorrrrr", sum := "43e7750e3961507550cf2ca42e88bfe7de2669555b71f2c9fbf07bfa1cf69a84", func := "loop.example/textsinlines/laws.FnExactUnquoteLine", spec := "fnExactUnquoteLine", inPlace := ["internal/bytealg.IndexByteString", "internal/bytealg.IndexString"], named := ["unicode/utf8.first", "unicode/utf8.acceptRanges", "internal/bytealg.MaxLen"], apart := false, laid := [("unicode/utf8.acceptRanges", laid_unicode_utf8_acceptRanges), ("unicode/utf8.first", laid_unicode_utf8_first)] }
def FnExactUnquoteLineSaid : Prop := fnExactUnquoteLineRow.holds Tryd.pinned (OpenSpec.ofChange fnExactUnquoteLineSpec)

/-- ITS FALSE NEIGHBOUR: 'it returns false'. Refute it at one input. -/
def fnExactUnquoteLineWrong : ChangeSpec := { name := "fnExactUnquoteLine", fn := fun _ => fun
  | [d] => { results := [.lit (.bool false)], args := [d] }
  | _ => none }
def FnExactUnquoteLineWrongFalsely : Prop := fnExactUnquoteLineRow.holds Tryd.pinned (OpenSpec.ofChange fnExactUnquoteLineWrong)

/- THE SECOND FORM. 'bulk': how many values and letters a reading holds, each counted each time it is reached (what is shared counts as often as it is met; a slice's spare places count too). A statement '..UptoSaid' is the law's where the arguments, and the package variables that the reading takes, are together of bulk at most 1048576: NARROWER than '..Said'. Prove '..Said' where nothing that the law and all that it calls make is longer than what came in: it says more and counts as full. Else prove '..UptoSaid'. A law counts once. -/
mutual
def uptoBulk {H : Type} : DataW H → Nat
  | .lit (.string bytes) => bytes.length + 1
  | .lit _ => 1
  | .nil => 1
  | .ptr d => uptoBulk d + 1
  | .slice elems spare => uptoBulkAll elems + uptoBulkAll spare + 1
  | .agg parts => uptoBulkAll parts + 1
  | .iface _ d => uptoBulk d + 1
  | .map entries => uptoBulkEntries entries + 1
  | .held _ => 1
def uptoBulkAll {H : Type} : List (DataW H) → Nat
  | [] => 0
  | d :: r => uptoBulk d + uptoBulkAll r
def uptoBulkEntries {H : Type} : List (Lit × DataW H) → Nat
  | [] => 0
  | x :: r => uptoBulkEntry x + uptoBulkEntries r
def uptoBulkEntry {H : Type} : Lit × DataW H → Nat
  | (.string bytes, d) => bytes.length + uptoBulk d + 1
  | (_, d) => uptoBulk d + 1
 end
def uptoSmall : (H : Type) → List (DataW H) → Bool := fun _ ds => decide (uptoBulkAll ds ≤ 1048576)
def OpenSpec.upto (s : _root_.Go.ChangeSpec) : _root_.Go.OpenSpec := { _root_.Go.OpenSpec.ofChange s with cond := some uptoSmall }

/-- 'laws.FnDedentLines', WHERE WHAT IT READS IS OF BULK AT MOST 1048576: true; the input reads as it did. -/
def fnDedentLinesUptoRow : OpenClaim := { program := "ytkbfceahhginhaarrrrdoorrrrr", sum := "43e7750e3961507550cf2ca42e88bfe7de2669555b71f2c9fbf07bfa1cf69a84", func := "loop.example/textsinlines/laws.FnDedentLines", spec := "fnDedentLines", inPlace := ["internal/bytealg.IndexByteString", "internal/bytealg.IndexString", "internal/abi.NoEscape", "internal/bytealg.MakeNoZero"], unfollowed := true, recurses := true, named := ["unicode/utf8.first", "unicode/utf8.acceptRanges", "internal/bytealg.MaxLen"], apart := false, laid := [("unicode/utf8.acceptRanges", laid_unicode_utf8_acceptRanges), ("unicode/utf8.first", laid_unicode_utf8_first)], narrowed := true }
def FnDedentLinesUptoSaid : Prop := fnDedentLinesUptoRow.holds Tryd.pinned (OpenSpec.upto fnDedentLinesSpec)

/-- 'laws.FnIndentLines', WHERE WHAT IT READS IS OF BULK AT MOST 1048576: true; the input reads as it did. -/
def fnIndentLinesUptoRow : OpenClaim := { program := "ytkbfceahhginhaarrrrdoorrrrr", sum := "43e7750e3961507550cf2ca42e88bfe7de2669555b71f2c9fbf07bfa1cf69a84", func := "loop.example/textsinlines/laws.FnIndentLines", spec := "fnIndentLines", inPlace := ["internal/abi.NoEscape", "internal/bytealg.MakeNoZero", "internal/bytealg.IndexByteString", "internal/bytealg.IndexString"], unfollowed := true, recurses := true, named := ["unicode/utf8.first", "unicode/utf8.acceptRanges", "internal/bytealg.MaxLen"], apart := false, laid := [("unicode/utf8.acceptRanges", laid_unicode_utf8_acceptRanges), ("unicode/utf8.first", laid_unicode_utf8_first)], narrowed := true }
def FnIndentLinesUptoSaid : Prop := fnIndentLinesUptoRow.holds Tryd.pinned (OpenSpec.upto fnIndentLinesSpec)

/-- 'laws.FnUnquoteLine', WHERE WHAT IT READS IS OF BULK AT MOST 1048576: true; the input reads as it did. -/
def fnUnquoteLineUptoRow : OpenClaim := { program := "ytkbfceahhginhaarrrrdoorrrrr", sum := "43e7750e3961507550cf2ca42e88bfe7de2669555b71f2c9fbf07bfa1cf69a84", func := "loop.example/textsinlines/laws.FnUnquoteLine", spec := "fnUnquoteLine", inPlace := ["internal/bytealg.IndexByteString", "internal/bytealg.IndexString"], named := ["unicode/utf8.first", "unicode/utf8.acceptRanges", "internal/bytealg.MaxLen"], apart := false, laid := [("unicode/utf8.acceptRanges", laid_unicode_utf8_acceptRanges), ("unicode/utf8.first", laid_unicode_utf8_first)], narrowed := true }
def FnUnquoteLineUptoSaid : Prop := fnUnquoteLineUptoRow.holds Tryd.pinned (OpenSpec.upto fnUnquoteLineSpec)

/-- 'laws.FnExactIndentLines', WHERE WHAT IT READS IS OF BULK AT MOST 1048576: true; the input reads as it did. -/
def fnExactIndentLinesUptoRow : OpenClaim := { program := "ytkbfceahhginhaarrrrdoorrrrr", sum := "43e7750e3961507550cf2ca42e88bfe7de2669555b71f2c9fbf07bfa1cf69a84", func := "loop.example/textsinlines/laws.FnExactIndentLines", spec := "fnExactIndentLines", inPlace := ["internal/abi.NoEscape", "internal/bytealg.MakeNoZero", "internal/bytealg.IndexByteString", "internal/bytealg.IndexString"], unfollowed := true, recurses := true, named := ["unicode/utf8.first", "unicode/utf8.acceptRanges", "internal/bytealg.MaxLen"], apart := false, laid := [("unicode/utf8.acceptRanges", laid_unicode_utf8_acceptRanges), ("unicode/utf8.first", laid_unicode_utf8_first)], narrowed := true }
def FnExactIndentLinesUptoSaid : Prop := fnExactIndentLinesUptoRow.holds Tryd.pinned (OpenSpec.upto fnExactIndentLinesSpec)

/-- 'laws.FnExactUnquoteLine', WHERE WHAT IT READS IS OF BULK AT MOST 1048576: true; the input reads as it did. -/
def fnExactUnquoteLineUptoRow : OpenClaim := { program := "ytkbfceahhginhaarrrrdoorrrrr", sum := "43e7750e3961507550cf2ca42e88bfe7de2669555b71f2c9fbf07bfa1cf69a84", func := "loop.example/textsinlines/laws.FnExactUnquoteLine", spec := "fnExactUnquoteLine", inPlace := ["internal/bytealg.IndexByteString", "internal/bytealg.IndexString"], named := ["unicode/utf8.first", "unicode/utf8.acceptRanges", "internal/bytealg.MaxLen"], apart := false, laid := [("unicode/utf8.acceptRanges", laid_unicode_utf8_acceptRanges), ("unicode/utf8.first", laid_unicode_utf8_first)], narrowed := true }
def FnExactUnquoteLineUptoSaid : Prop := fnExactUnquoteLineUptoRow.holds Tryd.pinned (OpenSpec.upto fnExactUnquoteLineSpec)

end Rows
end Go.Proofs.YtkbfceahhginhaaRRRRDoorRRRR
