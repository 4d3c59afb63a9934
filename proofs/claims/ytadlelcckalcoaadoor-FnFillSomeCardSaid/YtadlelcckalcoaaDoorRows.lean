/-
  NARROWER THAN 'FOR EVERY INPUT', by the rows' own cells (each row's printed sentence says how): FnValidForm: laid · FnHolesOf: laid · FnEscapeForm: laid · FnFillForm: laid · FnFillSome: laid · FnExactValidForm: laid · FnExactEscapeForm: laid · FnExactFillSome: laid.
  DERIVED. THE GIVEN ROWS OF THIS SEAT. 8 by the template 'for every input the law returns true; each argument reads behind the call as it read before'; 0 by the template 'total and deterministic' (their statements: YtadlelcckalcoaaDoorTotals.lean).
  GIVEN WITH THE SEED: the statements are not yours to turn. If you find one false, say at which input.
  Laid BY PROGRAM, IN A SANDBOX (cutbox-rows.mjs): the forced cells as the released guide's own fill.sh prints them over the translation 75818d0f7c511751… (all of the seat's roots in one cut). By AI agents, Wed Nov 11 2026. No macro, syntax, notation, axiom, sorry.
-/
import Derived.Test.YtadlelcckalcoaaDoorChecked
import GoSem.PinnedTables
import GoSem.Claim
import GoSem.ClaimJoined
import GoSem.ClaimMapViews
import Derived.JoinedTies
import Derived.KernelRfl
namespace Go.Proofs.YtadlelcckalcoaaDoor
/- THE CELL 'sum', in the pinned program and in every row, IS THE sha256 OF THE DUMP (.gsa) THAT YtadlelcckalcoaaDoorProg.lean LOADS. Nothing in Lean hashes anything: it is a label: what it is worth is what the hold of that sum in a sandbox is worth. -/
noncomputable def Tryd.pinned : Pinned := { name := "ytadlelcckalcoaadoor", sum := "75818d0f7c511751b995d04116c7714a1ea981222ce3060c71f734512ddacfcb", checked := Tryd.checked }
namespace Rows
def none {H : Type} : Left H := { results := [], args := [] }

/- WHAT THE LISTED PACKAGE-LEVEL VARIABLES READ AS WHEN THE CALL BEGINS. Each datum BY PROGRAM (the guide's laid-datum.mjs) off the statement by which the dump's own 'gosem.cut.vars' lays the variable. In a bare row this is a premise. The card (YtadlelcckalcoaaDoorCards.lean) ties it to the program's text. -/
def laid_unicode_utf8_acceptRanges {H : Type} : DataW H := .agg [.agg [.lit (.int .u8 128), .lit (.int .u8 191)], .agg [.lit (.int .u8 160), .lit (.int .u8 191)], .agg [.lit (.int .u8 128), .lit (.int .u8 159)], .agg [.lit (.int .u8 144), .lit (.int .u8 191)], .agg [.lit (.int .u8 128), .lit (.int .u8 143)], .agg [.lit (.int .u8 0), .lit (.int .u8 0)], .agg [.lit (.int .u8 0), .lit (.int .u8 0)], .agg [.lit (.int .u8 0), .lit (.int .u8 0)], .agg [.lit (.int .u8 0), .lit (.int .u8 0)], .agg [.lit (.int .u8 0), .lit (.int .u8 0)], .agg [.lit (.int .u8 0), .lit (.int .u8 0)], .agg [.lit (.int .u8 0), .lit (.int .u8 0)], .agg [.lit (.int .u8 0), .lit (.int .u8 0)], .agg [.lit (.int .u8 0), .lit (.int .u8 0)], .agg [.lit (.int .u8 0), .lit (.int .u8 0)], .agg [.lit (.int .u8 0), .lit (.int .u8 0)]]
def laid_errors_errorType {H : Type} : DataW H := .iface "internal/reflectlite.rtype" (.agg [.ptr (.lit (.string [101, 114, 114, 111, 114]))])
/-- One of Go's own tables, pinned by name: the form's constant. -/
def laid_unicode_utf8_first : DataW Unit := Go.Pinned.utf8First

/-- 'laws.FnValidForm': WHATEVER THE INPUT: true; the input reads as it did. -/
def fnValidFormSpec : ChangeSpec := { name := "fnValidForm", fn := fun _ => fun
  | [d] => { results := [.lit (.bool true)], args := [d] }
  | _ => none }
def fnValidFormRow : OpenClaim := { program := "ytadlelcckalcoaadoor", sum := "75818d0f7c511751b995d04116c7714a1ea981222ce3060c71f734512ddacfcb", func := "loop.example/textsinlines/laws.FnValidForm", spec := "fnValidForm", inPlace := ["internal/bytealg.IndexByteString", "internal/bytealg.IndexString", "internal/reflectlite.ValueOf", "(internal/reflectlite.Value).Type", "(internal/reflectlite.Value).IsNil", "internal/reflectlite.TypeOf", "(internal/reflectlite.Value).Elem", "(internal/reflectlite.Value).Set", "internal/bytealg.CountString", "internal/abi.NoEscape", "internal/bytealg.MakeNoZero"], unfollowed := true, recurses := true, named := ["internal/bytealg.MaxLen", "errors.errorType", "unicode/utf8.first", "unicode/utf8.acceptRanges"], apart := false, laid := [("unicode/utf8.acceptRanges", laid_unicode_utf8_acceptRanges), ("errors.errorType", laid_errors_errorType), ("unicode/utf8.first", laid_unicode_utf8_first)] }
def FnValidFormSaid : Prop := fnValidFormRow.holds Tryd.pinned (OpenSpec.ofChange fnValidFormSpec)

/-- ITS FALSE NEIGHBOUR: 'it returns false'. Refute it at one input. -/
def fnValidFormWrong : ChangeSpec := { name := "fnValidForm", fn := fun _ => fun
  | [d] => { results := [.lit (.bool false)], args := [d] }
  | _ => none }
def FnValidFormWrongFalsely : Prop := fnValidFormRow.holds Tryd.pinned (OpenSpec.ofChange fnValidFormWrong)

/-- 'laws.FnHolesOf': WHATEVER THE INPUT: true; the input reads as it did. -/
def fnHolesOfSpec : ChangeSpec := { name := "fnHolesOf", fn := fun _ => fun
  | [d] => { results := [.lit (.bool true)], args := [d] }
  | _ => none }
def fnHolesOfRow : OpenClaim := { program := "ytadlelcckalcoaadoor", sum := "75818d0f7c511751b995d04116c7714a1ea981222ce3060c71f734512ddacfcb", func := "loop.example/textsinlines/laws.FnHolesOf", spec := "fnHolesOf", inPlace := ["internal/bytealg.IndexByteString", "internal/bytealg.IndexString", "internal/reflectlite.ValueOf", "(internal/reflectlite.Value).Type", "(internal/reflectlite.Value).IsNil", "internal/reflectlite.TypeOf", "(internal/reflectlite.Value).Elem", "(internal/reflectlite.Value).Set", "internal/abi.NoEscape"], unfollowed := true, recurses := true, named := ["internal/bytealg.MaxLen", "errors.errorType"], apart := false, laid := [("errors.errorType", laid_errors_errorType)] }
def FnHolesOfSaid : Prop := fnHolesOfRow.holds Tryd.pinned (OpenSpec.ofChange fnHolesOfSpec)

/-- ITS FALSE NEIGHBOUR: 'it returns false'. Refute it at one input. -/
def fnHolesOfWrong : ChangeSpec := { name := "fnHolesOf", fn := fun _ => fun
  | [d] => { results := [.lit (.bool false)], args := [d] }
  | _ => none }
def FnHolesOfWrongFalsely : Prop := fnHolesOfRow.holds Tryd.pinned (OpenSpec.ofChange fnHolesOfWrong)

/-- 'laws.FnEscapeForm': WHATEVER THE INPUT: true; the input reads as it did. -/
def fnEscapeFormSpec : ChangeSpec := { name := "fnEscapeForm", fn := fun _ => fun
  | [d] => { results := [.lit (.bool true)], args := [d] }
  | _ => none }
def fnEscapeFormRow : OpenClaim := { program := "ytadlelcckalcoaadoor", sum := "75818d0f7c511751b995d04116c7714a1ea981222ce3060c71f734512ddacfcb", func := "loop.example/textsinlines/laws.FnEscapeForm", spec := "fnEscapeForm", inPlace := ["internal/bytealg.CountString", "internal/bytealg.IndexByteString", "internal/bytealg.IndexString", "internal/abi.NoEscape", "internal/bytealg.MakeNoZero"], named := ["internal/bytealg.MaxLen", "unicode/utf8.first", "unicode/utf8.acceptRanges"], apart := false, laid := [("unicode/utf8.acceptRanges", laid_unicode_utf8_acceptRanges), ("unicode/utf8.first", laid_unicode_utf8_first)] }
def FnEscapeFormSaid : Prop := fnEscapeFormRow.holds Tryd.pinned (OpenSpec.ofChange fnEscapeFormSpec)

/-- ITS FALSE NEIGHBOUR: 'it returns false'. Refute it at one input. -/
def fnEscapeFormWrong : ChangeSpec := { name := "fnEscapeForm", fn := fun _ => fun
  | [d] => { results := [.lit (.bool false)], args := [d] }
  | _ => none }
def FnEscapeFormWrongFalsely : Prop := fnEscapeFormRow.holds Tryd.pinned (OpenSpec.ofChange fnEscapeFormWrong)

/-- 'laws.FnFillForm': WHATEVER THE INPUT: true; the input reads as it did. -/
def fnFillFormSpec : ChangeSpec := { name := "fnFillForm", fn := fun _ => fun
  | [d] => { results := [.lit (.bool true)], args := [d] }
  | _ => none }
def fnFillFormRow : OpenClaim := { program := "ytadlelcckalcoaadoor", sum := "75818d0f7c511751b995d04116c7714a1ea981222ce3060c71f734512ddacfcb", func := "loop.example/textsinlines/laws.FnFillForm", spec := "fnFillForm", inPlace := ["internal/bytealg.IndexByteString", "internal/bytealg.IndexString", "internal/abi.NoEscape", "internal/bytealg.CountString", "internal/bytealg.MakeNoZero"], named := ["internal/bytealg.MaxLen", "unicode/utf8.first", "unicode/utf8.acceptRanges"], apart := false, laid := [("unicode/utf8.acceptRanges", laid_unicode_utf8_acceptRanges), ("unicode/utf8.first", laid_unicode_utf8_first)] }
def FnFillFormSaid : Prop := fnFillFormRow.holds Tryd.pinned (OpenSpec.ofChange fnFillFormSpec)

/-- ITS FALSE NEIGHBOUR: 'it returns false'. Refute it at one input. -/
def fnFillFormWrong : ChangeSpec := { name := "fnFillForm", fn := fun _ => fun
  | [d] => { results := [.lit (.bool false)], args := [d] }
  | _ => none }
def FnFillFormWrongFalsely : Prop := fnFillFormRow.holds Tryd.pinned (OpenSpec.ofChange fnFillFormWrong)

/-- 'laws.FnFillSome': WHATEVER THE INPUT: true; the input reads as it did. -/
def fnFillSomeSpec : ChangeSpec := { name := "fnFillSome", fn := fun _ => fun
  | [d] => { results := [.lit (.bool true)], args := [d] }
  | _ => none }
def fnFillSomeRow : OpenClaim := { program := "ytadlelcckalcoaadoor", sum := "75818d0f7c511751b995d04116c7714a1ea981222ce3060c71f734512ddacfcb", func := "loop.example/textsinlines/laws.FnFillSome", spec := "fnFillSome", inPlace := ["internal/bytealg.IndexByteString", "internal/bytealg.IndexString", "internal/bytealg.CountString", "internal/abi.NoEscape", "internal/bytealg.MakeNoZero"], named := ["internal/bytealg.MaxLen", "unicode/utf8.first", "unicode/utf8.acceptRanges"], apart := false, laid := [("unicode/utf8.acceptRanges", laid_unicode_utf8_acceptRanges), ("unicode/utf8.first", laid_unicode_utf8_first)] }
def FnFillSomeSaid : Prop := fnFillSomeRow.holds Tryd.pinned (OpenSpec.ofChange fnFillSomeSpec)

/-- ITS FALSE NEIGHBOUR: 'it returns false'. Refute it at one input. -/
def fnFillSomeWrong : ChangeSpec := { name := "fnFillSome", fn := fun _ => fun
  | [d] => { results := [.lit (.bool false)], args := [d] }
  | _ => none }
def FnFillSomeWrongFalsely : Prop := fnFillSomeRow.holds Tryd.pinned (OpenSpec.ofChange fnFillSomeWrong)

/-- 'laws.FnExactValidForm': WHATEVER THE INPUT: true; the input reads as it did. -/
def fnExactValidFormSpec : ChangeSpec := { name := "fnExactValidForm", fn := fun _ => fun
  | [d] => { results := [.lit (.bool true)], args := [d] }
  | _ => none }
def fnExactValidFormRow : OpenClaim := { program := "ytadlelcckalcoaadoor", sum := "75818d0f7c511751b995d04116c7714a1ea981222ce3060c71f734512ddacfcb", func := "loop.example/textsinlines/laws.FnExactValidForm", spec := "fnExactValidForm", inPlace := ["internal/bytealg.IndexByteString", "internal/bytealg.IndexString", "internal/reflectlite.ValueOf", "(internal/reflectlite.Value).Type", "(internal/reflectlite.Value).IsNil", "internal/reflectlite.TypeOf", "(internal/reflectlite.Value).Elem", "(internal/reflectlite.Value).Set"], unfollowed := true, recurses := true, named := ["internal/bytealg.MaxLen", "errors.errorType"], apart := false, laid := [("errors.errorType", laid_errors_errorType)] }
def FnExactValidFormSaid : Prop := fnExactValidFormRow.holds Tryd.pinned (OpenSpec.ofChange fnExactValidFormSpec)

/-- ITS FALSE NEIGHBOUR: 'it returns false'. Refute it at one input. -/
def fnExactValidFormWrong : ChangeSpec := { name := "fnExactValidForm", fn := fun _ => fun
  | [d] => { results := [.lit (.bool false)], args := [d] }
  | _ => none }
def FnExactValidFormWrongFalsely : Prop := fnExactValidFormRow.holds Tryd.pinned (OpenSpec.ofChange fnExactValidFormWrong)

/-- 'laws.FnExactEscapeForm': WHATEVER THE INPUT: true; the input reads as it did. -/
def fnExactEscapeFormSpec : ChangeSpec := { name := "fnExactEscapeForm", fn := fun _ => fun
  | [d] => { results := [.lit (.bool true)], args := [d] }
  | _ => none }
def fnExactEscapeFormRow : OpenClaim := { program := "ytadlelcckalcoaadoor", sum := "75818d0f7c511751b995d04116c7714a1ea981222ce3060c71f734512ddacfcb", func := "loop.example/textsinlines/laws.FnExactEscapeForm", spec := "fnExactEscapeForm", inPlace := ["internal/bytealg.CountString", "internal/bytealg.IndexByteString", "internal/bytealg.IndexString", "internal/abi.NoEscape", "internal/bytealg.MakeNoZero"], named := ["internal/bytealg.MaxLen", "unicode/utf8.first", "unicode/utf8.acceptRanges"], apart := false, laid := [("unicode/utf8.acceptRanges", laid_unicode_utf8_acceptRanges), ("unicode/utf8.first", laid_unicode_utf8_first)] }
def FnExactEscapeFormSaid : Prop := fnExactEscapeFormRow.holds Tryd.pinned (OpenSpec.ofChange fnExactEscapeFormSpec)

/-- ITS FALSE NEIGHBOUR: 'it returns false'. Refute it at one input. -/
def fnExactEscapeFormWrong : ChangeSpec := { name := "fnExactEscapeForm", fn := fun _ => fun
  | [d] => { results := [.lit (.bool false)], args := [d] }
  | _ => none }
def FnExactEscapeFormWrongFalsely : Prop := fnExactEscapeFormRow.holds Tryd.pinned (OpenSpec.ofChange fnExactEscapeFormWrong)

/-- 'laws.FnExactFillSome': WHATEVER THE INPUT: true; the input reads as it did. -/
def fnExactFillSomeSpec : ChangeSpec := { name := "fnExactFillSome", fn := fun _ => fun
  | [d1, d2] => { results := [.lit (.bool true)], args := [d1, d2] }
  | _ => none }
def fnExactFillSomeRow : OpenClaim := { program := "ytadlelcckalcoaadoor", sum := "75818d0f7c511751b995d04116c7714a1ea981222ce3060c71f734512ddacfcb", func := "loop.example/textsinlines/laws.FnExactFillSome", spec := "fnExactFillSome", inPlace := ["internal/bytealg.IndexByteString", "internal/bytealg.IndexString", "internal/bytealg.CountString", "internal/abi.NoEscape", "internal/bytealg.MakeNoZero"], named := ["internal/bytealg.MaxLen", "unicode/utf8.first", "unicode/utf8.acceptRanges"], apart := false, laid := [("unicode/utf8.acceptRanges", laid_unicode_utf8_acceptRanges), ("unicode/utf8.first", laid_unicode_utf8_first)] }
def FnExactFillSomeSaid : Prop := fnExactFillSomeRow.holds Tryd.pinned (OpenSpec.ofChange fnExactFillSomeSpec)

/-- ITS FALSE NEIGHBOUR: 'it returns false'. Refute it at one input. -/
def fnExactFillSomeWrong : ChangeSpec := { name := "fnExactFillSome", fn := fun _ => fun
  | [d1, d2] => { results := [.lit (.bool false)], args := [d1, d2] }
  | _ => none }
def FnExactFillSomeWrongFalsely : Prop := fnExactFillSomeRow.holds Tryd.pinned (OpenSpec.ofChange fnExactFillSomeWrong)

/- THE SECOND FORM. 'bulk': how many values and letters a reading holds, each counted each time it is reached (what is shared counts as often as it is met; a slice's spare places count too). A statement '..UptoSaid' is the law's where the arguments, and the package variables that the reading takes, are together of bulk at most 1048576: NARROWER than '..Said'. Prove '..Said' where nothing that the law and all that it calls make is longer than what came in: it says more and counts as full. Else prove '..UptoSaid'. A law counts once. -/
mutual
def uptoBulk {H : Type} : DataW H → Nat
  | .lit (.string bytes) => bytes.length + 1
  | .lit _ => 1
  | .nil => 1
  | .ptr d => uptoBulk d + 1
  | .slice elems spare => uptoBulkAll elems + uptoBulkAll spare + 1
  | .agg parts => uptoBulkAll parts + 1
  | .iface _ d => uptoBulk d + 1
  | .map entries => uptoBulkEntries entries + 1
  | .held _ => 1
def uptoBulkAll {H : Type} : List (DataW H) → Nat
  | [] => 0
  | d :: r => uptoBulk d + uptoBulkAll r
def uptoBulkEntries {H : Type} : List (Lit × DataW H) → Nat
  | [] => 0
  | x :: r => uptoBulkEntry x + uptoBulkEntries r
def uptoBulkEntry {H : Type} : Lit × DataW H → Nat
  | (.string bytes, d) => bytes.length + uptoBulk d + 1
  | (_, d) => uptoBulk d + 1
 end
def uptoSmall : (H : Type) → List (DataW H) → Bool := fun _ ds => decide (uptoBulkAll ds ≤ 1048576)
def OpenSpec.upto (s : _root_.Go.ChangeSpec) : _root_.Go.OpenSpec := { _root_.Go.OpenSpec.ofChange s with cond := some uptoSmall }

/-- 'laws.FnValidForm', WHERE WHAT IT READS IS OF BULK AT MOST 1048576: true; the input reads as it did. -/
def fnValidFormUptoRow : OpenClaim := { program := "ytadlelcckalcoaadoor", sum := "75818d0f7c511751b995d04116c7714a1ea981222ce3060c71f734512ddacfcb", func := "loop.example/textsinlines/laws.FnValidForm", spec := "fnValidForm", inPlace := ["internal/bytealg.IndexByteString", "internal/bytealg.IndexString", "internal/reflectlite.ValueOf", "(internal/reflectlite.Value).Type", "(internal/reflectlite.Value).IsNil", "internal/reflectlite.TypeOf", "(internal/reflectlite.Value).Elem", "(internal/reflectlite.Value).Set", "internal/bytealg.CountString", "internal/abi.NoEscape", "internal/bytealg.MakeNoZero"], unfollowed := true, recurses := true, named := ["internal/bytealg.MaxLen", "errors.errorType", "unicode/utf8.first", "unicode/utf8.acceptRanges"], apart := false, laid := [("unicode/utf8.acceptRanges", laid_unicode_utf8_acceptRanges), ("errors.errorType", laid_errors_errorType), ("unicode/utf8.first", laid_unicode_utf8_first)], narrowed := true }
def FnValidFormUptoSaid : Prop := fnValidFormUptoRow.holds Tryd.pinned (OpenSpec.upto fnValidFormSpec)

/-- 'laws.FnHolesOf', WHERE WHAT IT READS IS OF BULK AT MOST 1048576: true; the input reads as it did. -/
def fnHolesOfUptoRow : OpenClaim := { program := "ytadlelcckalcoaadoor", sum := "75818d0f7c511751b995d04116c7714a1ea981222ce3060c71f734512ddacfcb", func := "loop.example/textsinlines/laws.FnHolesOf", spec := "fnHolesOf", inPlace := ["internal/bytealg.IndexByteString", "internal/bytealg.IndexString", "internal/reflectlite.ValueOf", "(internal/reflectlite.Value).Type", "(internal/reflectlite.Value).IsNil", "internal/reflectlite.TypeOf", "(internal/reflectlite.Value).Elem", "(internal/reflectlite.Value).Set", "internal/abi.NoEscape"], unfollowed := true, recurses := true, named := ["internal/bytealg.MaxLen", "errors.errorType"], apart := false, laid := [("errors.errorType", laid_errors_errorType)], narrowed := true }
def FnHolesOfUptoSaid : Prop := fnHolesOfUptoRow.holds Tryd.pinned (OpenSpec.upto fnHolesOfSpec)

/-- 'laws.FnEscapeForm', WHERE WHAT IT READS IS OF BULK AT MOST 1048576: true; the input reads as it did. -/
def fnEscapeFormUptoRow : OpenClaim := { program := "ytadlelcckalcoaadoor", sum := "75818d0f7c511751b995d04116c7714a1ea981222ce3060c71f734512ddacfcb", func := "loop.example/textsinlines/laws.FnEscapeForm", spec := "fnEscapeForm", inPlace := ["internal/bytealg.CountString", "internal/bytealg.IndexByteString", "internal/bytealg.IndexString", "internal/abi.NoEscape", "internal/bytealg.MakeNoZero"], named := ["internal/bytealg.MaxLen", "unicode/utf8.first", "unicode/utf8.acceptRanges"], apart := false, laid := [("unicode/utf8.acceptRanges", laid_unicode_utf8_acceptRanges), ("unicode/utf8.first", laid_unicode_utf8_first)], narrowed := true }
def FnEscapeFormUptoSaid : Prop := fnEscapeFormUptoRow.holds Tryd.pinned (OpenSpec.upto fnEscapeFormSpec)

/-- 'laws.FnFillForm', WHERE WHAT IT READS IS OF BULK AT MOST 1048576: true; the input reads as it did. -/
def fnFillFormUptoRow : OpenClaim := { program := "ytadlelcckalcoaadoor", sum := "75818d0f7c511751b995d04116c7714a1ea981222ce3060c71f734512ddacfcb", func := "loop.example/textsinlines/laws.FnFillForm", spec := "fnFillForm", inPlace := ["internal/bytealg.IndexByteString", "internal/bytealg.IndexString", "internal/abi.NoEscape", "internal/bytealg.CountString", "internal/bytealg.MakeNoZero"], named := ["internal/bytealg.MaxLen", "unicode/utf8.first", "unicode/utf8.acceptRanges"], apart := false, laid := [("unicode/utf8.acceptRanges", laid_unicode_utf8_acceptRanges), ("unicode/utf8.first", laid_unicode_utf8_first)], narrowed := true }
def FnFillFormUptoSaid : Prop := fnFillFormUptoRow.holds Tryd.pinned (OpenSpec.upto fnFillFormSpec)

/-- 'laws.FnFillSome', WHERE WHAT IT READS IS OF BULK AT MOST 1048576: true; the input reads as it did. -/
def fnFillSomeUptoRow : OpenClaim := { program := "ytadlelcckalcoaadoor", sum := "75818d0f7c511751b995d04116c7714a1ea981222ce3060c71f734512ddacfcb", func := "loop.example/textsinlines/laws.FnFillSome", spec := "fnFillSome", inPlace := ["internal/bytealg.IndexByteString", "internal/bytealg.IndexString", "internal/bytealg.CountString", "internal/abi.NoEscape", "internal/bytealg.MakeNoZero"], named := ["internal/bytealg.MaxLen", "unicode/utf8.first", "unicode/utf8.acceptRanges"], apart := false, laid := [("unicode/utf8.acceptRanges", laid_unicode_utf8_acceptRanges), ("unicode/utf8.first", laid_unicode_utf8_first)], narrowed := true }
def FnFillSomeUptoSaid : Prop := fnFillSomeUptoRow.holds Tryd.pinned (OpenSpec.upto fnFillSomeSpec)

/-- 'laws.FnExactValidForm', WHERE WHAT IT READS IS OF BULK AT MOST 1048576: true; the input reads as it did. -/
def fnExactValidFormUptoRow : OpenClaim := { program := "ytadlelcckalcoaadoor", sum := "75818d0f7c511751b995d04116c7714a1ea981222ce3060c71f734512ddacfcb", func := "loop.example/textsinlines/laws.FnExactValidForm", spec := "fnExactValidForm", inPlace := ["internal/bytealg.IndexByteString", "internal/bytealg.IndexString", "internal/reflectlite.ValueOf", "(internal/reflectlite.Value).Type", "(internal/reflectlite.Value).IsNil", "internal/reflectlite.TypeOf", "(internal/reflectlite.Value).Elem", "(internal/reflectlite.Value).Set"], unfollowed := true, recurses := true, named := ["internal/bytealg.MaxLen", "errors.errorType"], apart := false, laid := [("errors.errorType", laid_errors_errorType)], narrowed := true }
def FnExactValidFormUptoSaid : Prop := fnExactValidFormUptoRow.holds Tryd.pinned (OpenSpec.upto fnExactValidFormSpec)

/-- 'laws.FnExactEscapeForm', WHERE WHAT IT READS IS OF BULK AT MOST 1048576: true; the input reads as it did. -/
def fnExactEscapeFormUptoRow : OpenClaim := { program := "ytadlelcckalcoaadoor", sum := "75818d0f7c511751b995d04116c7714a1ea981222ce3060c71f734512ddacfcb", func := "loop.example/textsinlines/laws.FnExactEscapeForm", spec := "fnExactEscapeForm", inPlace := ["internal/bytealg.CountString", "internal/bytealg.IndexByteString", "internal/bytealg.IndexString", "internal/abi.NoEscape", "internal/bytealg.MakeNoZero"], named := ["internal/bytealg.MaxLen", "unicode/utf8.first", "unicode/utf8.acceptRanges"], apart := false, laid := [("unicode/utf8.acceptRanges", laid_unicode_utf8_acceptRanges), ("unicode/utf8.first", laid_unicode_utf8_first)], narrowed := true }
def FnExactEscapeFormUptoSaid : Prop := fnExactEscapeFormUptoRow.holds Tryd.pinned (OpenSpec.upto fnExactEscapeFormSpec)

/-- 'laws.FnExactFillSome', WHERE WHAT IT READS IS OF BULK AT MOST 1048576: true; the input reads as it did. -/
def fnExactFillSomeUptoRow : OpenClaim := { program := "ytadlelcckalcoaadoor", sum := "75818d0f7c511751b995d04116c7714a1ea981222ce3060c71f734512ddacfcb", func := "loop.example/textsinlines/laws.FnExactFillSome", spec := "fnExactFillSome", inPlace := ["internal/bytealg.IndexByteString", "internal/bytealg.IndexString", "internal/bytealg.CountString", "internal/abi.NoEscape", "internal/bytealg.MakeNoZero"], named := ["internal/bytealg.MaxLen", "unicode/utf8.first", "unicode/utf8.acceptRanges"], apart := false, laid := [("unicode/utf8.acceptRanges", laid_unicode_utf8_acceptRanges), ("unicode/utf8.first", laid_unicode_utf8_first)], narrowed := true }
def FnExactFillSomeUptoSaid : Prop := fnExactFillSomeUptoRow.holds Tryd.pinned (OpenSpec.upto fnExactFillSomeSpec)

end Rows
end Go.Proofs.YtadlelcckalcoaaDoor
