/-
  NARROWER THAN 'FOR EVERY INPUT', by the rows' own cells (each row's printed sentence says how): FnTabText: laid · FnMarginOf: laid · FnDedentLines: laid · FnIndentLines: laid · FnExactTabText: laid · FnExactMarginOf: laid · FnExactDedentLines: laid · FnExactIndentLines: laid.
  DERIVED. THE GIVEN ROWS OF THIS SEAT. 8 by the template 'for every input the law returns true; each argument reads behind the call as it read before'; 0 by the template 'total and deterministic' (their statements: YtcghlhjlfppllaaDoorTotals.lean).
  GIVEN WITH THE SEED: the statements are not yours to turn. If you find one false, say at which input.
  Laid BY PROGRAM, IN A SANDBOX (cutbox-rows.mjs): the forced cells as the released guide's own fill.sh prints them over the translation 819c61ea777bb81a… (all of the seat's roots in one cut). By AI agents, Wed Nov 11 2026. No macro, syntax, notation, axiom, sorry.
-/
import Derived.Test.YtcghlhjlfppllaaDoorChecked
import GoSem.PinnedTables
import GoSem.Claim
import GoSem.ClaimJoined
import GoSem.ClaimMapViews
import Derived.JoinedTies
import Derived.KernelRfl
namespace Go.Proofs.YtcghlhjlfppllaaDoor
/- THE CELL 'sum', in the pinned program and in every row, IS THE sha256 OF THE DUMP (.gsa) THAT YtcghlhjlfppllaaDoorProg.lean LOADS. Nothing in Lean hashes anything: it is a label: what it is worth is what the hold of that sum in a sandbox is worth. -/
noncomputable def Tryd.pinned : Pinned := { name := "ytcghlhjlfppllaadoor", sum := "819c61ea777bb81ad950bc768e2f0ea9df734cf5521c11e049350989e2cfb4c0", checked := Tryd.checked }
namespace Rows
def none {H : Type} : Left H := { results := [], args := [] }

/- WHAT THE LISTED PACKAGE-LEVEL VARIABLES READ AS WHEN THE CALL BEGINS. Each datum BY PROGRAM (the guide's laid-datum.mjs) off the statement by which the dump's own 'gosem.cut.vars' lays the variable. In a bare row this is a premise. The card (YtcghlhjlfppllaaDoorCards.lean) ties it to the program's text. -/
def laid_unicode_utf8_acceptRanges {H : Type} : DataW H := .agg [.agg [.lit (.int .u8 128), .lit (.int .u8 191)], .agg [.lit (.int .u8 160), .lit (.int .u8 191)], .agg [.lit (.int .u8 128), .lit (.int .u8 159)], .agg [.lit (.int .u8 144), .lit (.int .u8 191)], .agg [.lit (.int .u8 128), .lit (.int .u8 143)], .agg [.lit (.int .u8 0), .lit (.int .u8 0)], .agg [.lit (.int .u8 0), .lit (.int .u8 0)], .agg [.lit (.int .u8 0), .lit (.int .u8 0)], .agg [.lit (.int .u8 0), .lit (.int .u8 0)], .agg [.lit (.int .u8 0), .lit (.int .u8 0)], .agg [.lit (.int .u8 0), .lit (.int .u8 0)], .agg [.lit (.int .u8 0), .lit (.int .u8 0)], .agg [.lit (.int .u8 0), .lit (.int .u8 0)], .agg [.lit (.int .u8 0), .lit (.int .u8 0)], .agg [.lit (.int .u8 0), .lit (.int .u8 0)], .agg [.lit (.int .u8 0), .lit (.int .u8 0)]]
/-- One of Go's own tables, pinned by name: the form's constant. -/
def laid_unicode_utf8_first : DataW Unit := Go.Pinned.utf8First

/-- 'laws.FnTabText': WHATEVER THE INPUT: true; the input reads as it did. -/
def fnTabTextSpec : ChangeSpec := { name := "fnTabText", fn := fun _ => fun
  | [d] => { results := [.lit (.bool true)], args := [d] }
  | _ => none }
def fnTabTextRow : OpenClaim := { program := "ytcghlhjlfppllaadoor", sum := "819c61ea777bb81ad950bc768e2f0ea9df734cf5521c11e049350989e2cfb4c0", func := "loop.example/textsinlines/laws.FnTabText", spec := "fnTabText", inPlace := ["internal/bytealg.IndexByteString", "internal/bytealg.IndexString", "internal/abi.NoEscape", "internal/bytealg.MakeNoZero"], named := ["unicode/utf8.first", "unicode/utf8.acceptRanges", "internal/bytealg.MaxLen"], apart := false, laid := [("unicode/utf8.acceptRanges", laid_unicode_utf8_acceptRanges), ("unicode/utf8.first", laid_unicode_utf8_first)] }
def FnTabTextSaid : Prop := fnTabTextRow.holds Tryd.pinned (OpenSpec.ofChange fnTabTextSpec)

/-- ITS FALSE NEIGHBOUR: 'it returns false'. Refute it at one input. -/
def fnTabTextWrong : ChangeSpec := { name := "fnTabText", fn := fun _ => fun
  | [d] => { results := [.lit (.bool false)], args := [d] }
  | _ => none }
def FnTabTextWrongFalsely : Prop := fnTabTextRow.holds Tryd.pinned (OpenSpec.ofChange fnTabTextWrong)

/-- 'laws.FnMarginOf': WHATEVER THE INPUT: true; the input reads as it did. -/
def fnMarginOfSpec : ChangeSpec := { name := "fnMarginOf", fn := fun _ => fun
  | [d] => { results := [.lit (.bool true)], args := [d] }
  | _ => none }
def fnMarginOfRow : OpenClaim := { program := "ytcghlhjlfppllaadoor", sum := "819c61ea777bb81ad950bc768e2f0ea9df734cf5521c11e049350989e2cfb4c0", func := "loop.example/textsinlines/laws.FnMarginOf", spec := "fnMarginOf", inPlace := ["internal/bytealg.IndexByteString", "internal/bytealg.IndexString"], unfollowed := true, recurses := true, named := ["unicode/utf8.first", "unicode/utf8.acceptRanges", "internal/bytealg.MaxLen"], apart := false, laid := [("unicode/utf8.acceptRanges", laid_unicode_utf8_acceptRanges), ("unicode/utf8.first", laid_unicode_utf8_first)] }
def FnMarginOfSaid : Prop := fnMarginOfRow.holds Tryd.pinned (OpenSpec.ofChange fnMarginOfSpec)

/-- ITS FALSE NEIGHBOUR: 'it returns false'. Refute it at one input. -/
def fnMarginOfWrong : ChangeSpec := { name := "fnMarginOf", fn := fun _ => fun
  | [d] => { results := [.lit (.bool false)], args := [d] }
  | _ => none }
def FnMarginOfWrongFalsely : Prop := fnMarginOfRow.holds Tryd.pinned (OpenSpec.ofChange fnMarginOfWrong)

/-- 'laws.FnDedentLines': WHATEVER THE INPUT: true; the input reads as it did. -/
def fnDedentLinesSpec : ChangeSpec := { name := "fnDedentLines", fn := fun _ => fun
  | [d] => { results := [.lit (.bool true)], args := [d] }
  | _ => none }
def fnDedentLinesRow : OpenClaim := { program := "ytcghlhjlfppllaadoor", sum := "819c61ea777bb81ad950bc768e2f0ea9df734cf5521c11e049350989e2cfb4c0", func := "loop.example/textsinlines/laws.FnDedentLines", spec := "fnDedentLines", inPlace := ["internal/bytealg.IndexByteString", "internal/bytealg.IndexString", "internal/abi.NoEscape", "internal/bytealg.MakeNoZero"], unfollowed := true, recurses := true, named := ["unicode/utf8.first", "unicode/utf8.acceptRanges", "internal/bytealg.MaxLen"], apart := false, laid := [("unicode/utf8.acceptRanges", laid_unicode_utf8_acceptRanges), ("unicode/utf8.first", laid_unicode_utf8_first)] }
def FnDedentLinesSaid : Prop := fnDedentLinesRow.holds Tryd.pinned (OpenSpec.ofChange fnDedentLinesSpec)

/-- ITS FALSE NEIGHBOUR: 'it returns false'. Refute it at one input. -/
def fnDedentLinesWrong : ChangeSpec := { name := "fnDedentLines", fn := fun _ => fun
  | [d] => { results := [.lit (.bool false)], args := [d] }
  | _ => none }
def FnDedentLinesWrongFalsely : Prop := fnDedentLinesRow.holds Tryd.pinned (OpenSpec.ofChange fnDedentLinesWrong)

/-- 'laws.FnIndentLines': WHATEVER THE INPUT: true; the input reads as it did. -/
def fnIndentLinesSpec : ChangeSpec := { name := "fnIndentLines", fn := fun _ => fun
  | [d] => { results := [.lit (.bool true)], args := [d] }
  | _ => none }
def fnIndentLinesRow : OpenClaim := { program := "ytcghlhjlfppllaadoor", sum := "819c61ea777bb81ad950bc768e2f0ea9df734cf5521c11e049350989e2cfb4c0", func := "loop.example/textsinlines/laws.FnIndentLines", spec := "fnIndentLines", inPlace := ["internal/abi.NoEscape", "internal/bytealg.MakeNoZero", "internal/bytealg.IndexByteString", "internal/bytealg.IndexString"], unfollowed := true, recurses := true, named := ["unicode/utf8.first", "unicode/utf8.acceptRanges", "internal/bytealg.MaxLen"], apart := false, laid := [("unicode/utf8.acceptRanges", laid_unicode_utf8_acceptRanges), ("unicode/utf8.first", laid_unicode_utf8_first)] }
def FnIndentLinesSaid : Prop := fnIndentLinesRow.holds Tryd.pinned (OpenSpec.ofChange fnIndentLinesSpec)

/-- ITS FALSE NEIGHBOUR: 'it returns false'. Refute it at one input. -/
def fnIndentLinesWrong : ChangeSpec := { name := "fnIndentLines", fn := fun _ => fun
  | [d] => { results := [.lit (.bool false)], args := [d] }
  | _ => none }
def FnIndentLinesWrongFalsely : Prop := fnIndentLinesRow.holds Tryd.pinned (OpenSpec.ofChange fnIndentLinesWrong)

/-- 'laws.FnExactTabText': WHATEVER THE INPUT: true; the input reads as it did. -/
def fnExactTabTextSpec : ChangeSpec := { name := "fnExactTabText", fn := fun _ => fun
  | [d1, d2] => { results := [.lit (.bool true)], args := [d1, d2] }
  | _ => none }
def fnExactTabTextRow : OpenClaim := { program := "ytcghlhjlfppllaadoor", sum := "819c61ea777bb81ad950bc768e2f0ea9df734cf5521c11e049350989e2cfb4c0", func := "loop.example/textsinlines/laws.FnExactTabText", spec := "fnExactTabText", inPlace := ["internal/bytealg.IndexByteString", "internal/bytealg.IndexString", "internal/abi.NoEscape"], named := ["unicode/utf8.first", "unicode/utf8.acceptRanges", "internal/bytealg.MaxLen"], apart := false, laid := [("unicode/utf8.acceptRanges", laid_unicode_utf8_acceptRanges), ("unicode/utf8.first", laid_unicode_utf8_first)] }
def FnExactTabTextSaid : Prop := fnExactTabTextRow.holds Tryd.pinned (OpenSpec.ofChange fnExactTabTextSpec)

/-- ITS FALSE NEIGHBOUR: 'it returns false'. Refute it at one input. -/
def fnExactTabTextWrong : ChangeSpec := { name := "fnExactTabText", fn := fun _ => fun
  | [d1, d2] => { results := [.lit (.bool false)], args := [d1, d2] }
  | _ => none }
def FnExactTabTextWrongFalsely : Prop := fnExactTabTextRow.holds Tryd.pinned (OpenSpec.ofChange fnExactTabTextWrong)

/-- 'laws.FnExactMarginOf': WHATEVER THE INPUT: true; the input reads as it did. -/
def fnExactMarginOfSpec : ChangeSpec := { name := "fnExactMarginOf", fn := fun _ => fun
  | [d] => { results := [.lit (.bool true)], args := [d] }
  | _ => none }
def fnExactMarginOfRow : OpenClaim := { program := "ytcghlhjlfppllaadoor", sum := "819c61ea777bb81ad950bc768e2f0ea9df734cf5521c11e049350989e2cfb4c0", func := "loop.example/textsinlines/laws.FnExactMarginOf", spec := "fnExactMarginOf", inPlace := ["internal/bytealg.IndexByteString", "internal/bytealg.IndexString"], named := ["unicode/utf8.first", "unicode/utf8.acceptRanges", "internal/bytealg.MaxLen"], apart := false, laid := [("unicode/utf8.acceptRanges", laid_unicode_utf8_acceptRanges), ("unicode/utf8.first", laid_unicode_utf8_first)] }
def FnExactMarginOfSaid : Prop := fnExactMarginOfRow.holds Tryd.pinned (OpenSpec.ofChange fnExactMarginOfSpec)

/-- ITS FALSE NEIGHBOUR: 'it returns false'. Refute it at one input. -/
def fnExactMarginOfWrong : ChangeSpec := { name := "fnExactMarginOf", fn := fun _ => fun
  | [d] => { results := [.lit (.bool false)], args := [d] }
  | _ => none }
def FnExactMarginOfWrongFalsely : Prop := fnExactMarginOfRow.holds Tryd.pinned (OpenSpec.ofChange fnExactMarginOfWrong)

/-- 'laws.FnExactDedentLines': WHATEVER THE INPUT: true; the input reads as it did. -/
def fnExactDedentLinesSpec : ChangeSpec := { name := "fnExactDedentLines", fn := fun _ => fun
  | [d] => { results := [.lit (.bool true)], args := [d] }
  | _ => none }
def fnExactDedentLinesRow : OpenClaim := { program := "ytcghlhjlfppllaadoor", sum := "819c61ea777bb81ad950bc768e2f0ea9df734cf5521c11e049350989e2cfb4c0", func := "loop.example/textsinlines/laws.FnExactDedentLines", spec := "fnExactDedentLines", inPlace := ["internal/bytealg.IndexByteString", "internal/bytealg.IndexString"], unfollowed := true, recurses := true, named := ["unicode/utf8.first", "unicode/utf8.acceptRanges", "internal/bytealg.MaxLen"], apart := false, laid := [("unicode/utf8.acceptRanges", laid_unicode_utf8_acceptRanges), ("unicode/utf8.first", laid_unicode_utf8_first)] }
def FnExactDedentLinesSaid : Prop := fnExactDedentLinesRow.holds Tryd.pinned (OpenSpec.ofChange fnExactDedentLinesSpec)

/-- ITS FALSE NEIGHBOUR: 'it returns false'. Refute it at one input. -/
def fnExactDedentLinesWrong : ChangeSpec := { name := "fnExactDedentLines", fn := fun _ => fun
  | [d] => { results := [.lit (.bool false)], args := [d] }
  | _ => none }
def FnExactDedentLinesWrongFalsely : Prop := fnExactDedentLinesRow.holds Tryd.pinned (OpenSpec.ofChange fnExactDedentLinesWrong)

/-- 'laws.FnExactIndentLines': WHATEVER THE INPUT: true; the input reads as it did. -/
def fnExactIndentLinesSpec : ChangeSpec := { name := "fnExactIndentLines", fn := fun _ => fun
  | [d1, d2] => { results := [.lit (.bool true)], args := [d1, d2] }
  | _ => none }
def fnExactIndentLinesRow : OpenClaim := { program := "ytcghlhjlfppllaadoor", sum := "819c61ea777bb81ad950bc768e2f0ea9df734cf5521c11e049350989e2cfb4c0", func := "loop.example/textsinlines/laws.FnExactIndentLines", spec := "fnExactIndentLines", inPlace := ["internal/abi.NoEscape", "internal/bytealg.MakeNoZero", "internal/bytealg.IndexByteString", "internal/bytealg.IndexString"], unfollowed := true, recurses := true, named := ["unicode/utf8.first", "unicode/utf8.acceptRanges", "internal/bytealg.MaxLen"], apart := false, laid := [("unicode/utf8.acceptRanges", laid_unicode_utf8_acceptRanges), ("unicode/utf8.first", laid_unicode_utf8_first)] }
def FnExactIndentLinesSaid : Prop := fnExactIndentLinesRow.holds Tryd.pinned (OpenSpec.ofChange fnExactIndentLinesSpec)

/-- ITS FALSE NEIGHBOUR: 'it returns false'. Refute it at one input. -/
def fnExactIndentLinesWrong : ChangeSpec := { name := "fnExactIndentLines", fn := fun _ => fun
  | [d1, d2] => { results := [.lit (.bool false)], args := [d1, d2] }
  | _ => none }
def FnExactIndentLinesWrongFalsely : Prop := fnExactIndentLinesRow.holds Tryd.pinned (OpenSpec.ofChange fnExactIndentLinesWrong)

/- THE SECOND FORM. 'bulk': how many values and letters a reading holds, each counted each time it is reached (what is shared counts as often as it is met; a slice's spare places count too). A statement '..UptoSaid' is the law's where the arguments, and the package variables that the reading takes, are together of bulk at most 1048576: NARROWER than '..Said'. Prove '..Said' where nothing that the law and all that it calls make is longer than what came in: it says more and counts as full. Else prove '..UptoSaid'. A law counts once. -/
mutual
def uptoBulk {H : Type} : DataW H → Nat
  | .lit (.string bytes) => bytes.length + 1
  | .lit _ => 1
  | .nil => 1
  | .ptr d => uptoBulk d + 1
  | .slice elems spare => uptoBulkAll elems + uptoBulkAll spare + 1
  | .agg parts => uptoBulkAll parts + 1
  | .iface _ d => uptoBulk d + 1
  | .map entries => uptoBulkEntries entries + 1
  | .held _ => 1
def uptoBulkAll {H : Type} : List (DataW H) → Nat
  | [] => 0
  | d :: r => uptoBulk d + uptoBulkAll r
def uptoBulkEntries {H : Type} : List (Lit × DataW H) → Nat
  | [] => 0
  | x :: r => uptoBulkEntry x + uptoBulkEntries r
def uptoBulkEntry {H : Type} : Lit × DataW H → Nat
  | (.string bytes, d) => bytes.length + uptoBulk d + 1
  | (_, d) => uptoBulk d + 1
 end
def uptoSmall : (H : Type) → List (DataW H) → Bool := fun _ ds => decide (uptoBulkAll ds ≤ 1048576)
def OpenSpec.upto (s : _root_.Go.ChangeSpec) : _root_.Go.OpenSpec := { _root_.Go.OpenSpec.ofChange s with cond := some uptoSmall }

/-- 'laws.FnTabText', WHERE WHAT IT READS IS OF BULK AT MOST 1048576: true; the input reads as it did. -/
def fnTabTextUptoRow : OpenClaim := { program := "ytcghlhjlfppllaadoor", sum := "819c61ea777bb81ad950bc768e2f0ea9df734cf5521c11e049350989e2cfb4c0", func := "loop.example/textsinlines/laws.FnTabText", spec := "fnTabText", inPlace := ["internal/bytealg.IndexByteString", "internal/bytealg.IndexString", "internal/abi.NoEscape", "internal/bytealg.MakeNoZero"], named := ["unicode/utf8.first", "unicode/utf8.acceptRanges", "internal/bytealg.MaxLen"], apart := false, laid := [("unicode/utf8.acceptRanges", laid_unicode_utf8_acceptRanges), ("unicode/utf8.first", laid_unicode_utf8_first)], narrowed := true }
def FnTabTextUptoSaid : Prop := fnTabTextUptoRow.holds Tryd.pinned (OpenSpec.upto fnTabTextSpec)

/-- 'laws.FnMarginOf', WHERE WHAT IT READS IS OF BULK AT MOST 1048576: true; the input reads as it did. -/
def fnMarginOfUptoRow : OpenClaim := { program := "ytcghlhjlfppllaadoor", sum := "819c61ea777bb81ad950bc768e2f0ea9df734cf5521c11e049350989e2cfb4c0", func := "loop.example/textsinlines/laws.FnMarginOf", spec := "fnMarginOf", inPlace := ["internal/bytealg.IndexByteString", "internal/bytealg.IndexString"], unfollowed := true, recurses := true, named := ["unicode/utf8.first", "unicode/utf8.acceptRanges", "internal/bytealg.MaxLen"], apart := false, laid := [("unicode/utf8.acceptRanges", laid_unicode_utf8_acceptRanges), ("unicode/utf8.first", laid_unicode_utf8_first)], narrowed := true }
def FnMarginOfUptoSaid : Prop := fnMarginOfUptoRow.holds Tryd.pinned (OpenSpec.upto fnMarginOfSpec)

/-- 'laws.FnDedentLines', WHERE WHAT IT READS IS OF BULK AT MOST 1048576: true; the input reads as it did. -/
def fnDedentLinesUptoRow : OpenClaim := { program := "ytcghlhjlfppllaadoor", sum := "819c61ea777bb81ad950bc768e2f0ea9df734cf5521c11e049350989e2cfb4c0", func := "loop.example/textsinlines/laws.FnDedentLines", spec := "fnDedentLines", inPlace := ["internal/bytealg.IndexByteString", "internal/bytealg.IndexString", "internal/abi.NoEscape", "internal/bytealg.MakeNoZero"], unfollowed := true, recurses := true, named := ["unicode/utf8.first", "unicode/utf8.acceptRanges", "internal/bytealg.MaxLen"], apart := false, laid := [("unicode/utf8.acceptRanges", laid_unicode_utf8_acceptRanges), ("unicode/utf8.first", laid_unicode_utf8_first)], narrowed := true }
def FnDedentLinesUptoSaid : Prop := fnDedentLinesUptoRow.holds Tryd.pinned (OpenSpec.upto fnDedentLinesSpec)

/-- 'laws.FnIndentLines', WHERE WHAT IT READS IS OF BULK AT MOST 1048576: true; the input reads as it did. -/
def fnIndentLinesUptoRow : OpenClaim := { program := "ytcghlhjlfppllaadoor", sum := "819c61ea777bb81ad950bc768e2f0ea9df734cf5521c11e049350989e2cfb4c0", func := "loop.example/textsinlines/laws.FnIndentLines", spec := "fnIndentLines", inPlace := ["internal/abi.NoEscape", "internal/bytealg.MakeNoZero", "internal/bytealg.IndexByteString", "internal/bytealg.IndexString"], unfollowed := true, recurses := true, named := ["unicode/utf8.first", "unicode/utf8.acceptRanges", "internal/bytealg.MaxLen"], apart := false, laid := [("unicode/utf8.acceptRanges", laid_unicode_utf8_acceptRanges), ("unicode/utf8.first", laid_unicode_utf8_first)], narrowed := true }
def FnIndentLinesUptoSaid : Prop := fnIndentLinesUptoRow.holds Tryd.pinned (OpenSpec.upto fnIndentLinesSpec)

/-- 'laws.FnExactTabText', WHERE WHAT IT READS IS OF BULK AT MOST 1048576: true; the input reads as it did. -/
def fnExactTabTextUptoRow : OpenClaim := { program := "ytcghlhjlfppllaadoor", sum := "819c61ea777bb81ad950bc768e2f0ea9df734cf5521c11e049350989e2cfb4c0", func := "loop.example/textsinlines/laws.FnExactTabText", spec := "fnExactTabText", inPlace := ["internal/bytealg.IndexByteString", "internal/bytealg.IndexString", "internal/abi.NoEscape"], named := ["unicode/utf8.first", "unicode/utf8.acceptRanges", "internal/bytealg.MaxLen"], apart := false, laid := [("unicode/utf8.acceptRanges", laid_unicode_utf8_acceptRanges), ("unicode/utf8.first", laid_unicode_utf8_first)], narrowed := true }
def FnExactTabTextUptoSaid : Prop := fnExactTabTextUptoRow.holds Tryd.pinned (OpenSpec.upto fnExactTabTextSpec)

/-- 'laws.FnExactMarginOf', WHERE WHAT IT READS IS OF BULK AT MOST 1048576: true; the input reads as it did. -/
def fnExactMarginOfUptoRow : OpenClaim := { program := "ytcghlhjlfppllaadoor", sum := "819c61ea777bb81ad950bc768e2f0ea9df734cf5521c11e049350989e2cfb4c0", func := "loop.example/textsinlines/laws.FnExactMarginOf", spec := "fnExactMarginOf", inPlace := ["internal/bytealg.IndexByteString", "internal/bytealg.IndexString"], named := ["unicode/utf8.first", "unicode/utf8.acceptRanges", "internal/bytealg.MaxLen"], apart := false, laid := [("unicode/utf8.acceptRanges", laid_unicode_utf8_acceptRanges), ("unicode/utf8.first", laid_unicode_utf8_first)], narrowed := true }
def FnExactMarginOfUptoSaid : Prop := fnExactMarginOfUptoRow.holds Tryd.pinned (OpenSpec.upto fnExactMarginOfSpec)

/-- 'laws.FnExactDedentLines', WHERE WHAT IT READS IS OF BULK AT MOST 1048576: true; the input reads as it did. -/
def fnExactDedentLinesUptoRow : OpenClaim := { program := "ytcghlhjlfppllaadoor", sum := "819c61ea777bb81ad950bc768e2f0ea9df734cf5521c11e049350989e2cfb4c0", func := "loop.example/textsinlines/laws.FnExactDedentLines", spec := "fnExactDedentLines", inPlace := ["internal/bytealg.IndexByteString", "internal/bytealg.IndexString"], unfollowed := true, recurses := true, named := ["unicode/utf8.first", "unicode/utf8.acceptRanges", "internal/bytealg.MaxLen"], apart := false, laid := [("unicode/utf8.acceptRanges", laid_unicode_utf8_acceptRanges), ("unicode/utf8.first", laid_unicode_utf8_first)], narrowed := true }
def FnExactDedentLinesUptoSaid : Prop := fnExactDedentLinesUptoRow.holds Tryd.pinned (OpenSpec.upto fnExactDedentLinesSpec)

/-- 'laws.FnExactIndentLines', WHERE WHAT IT READS IS OF BULK AT MOST 1048576: true; the input reads as it did. -/
def fnExactIndentLinesUptoRow : OpenClaim := { program := "ytcghlhjlfppllaadoor", sum := "819c61ea777bb81ad950bc768e2f0ea9df734cf5521c11e049350989e2cfb4c0", func := "loop.example/textsinlines/laws.FnExactIndentLines", spec := "fnExactIndentLines", inPlace := ["internal/abi.NoEscape", "internal/bytealg.MakeNoZero", "internal/bytealg.IndexByteString", "internal/bytealg.IndexString"], unfollowed := true, recurses := true, named := ["unicode/utf8.first", "unicode/utf8.acceptRanges", "internal/bytealg.MaxLen"], apart := false, laid := [("unicode/utf8.acceptRanges", laid_unicode_utf8_acceptRanges), ("unicode/utf8.first", laid_unicode_utf8_first)], narrowed := true }
def FnExactIndentLinesUptoSaid : Prop := fnExactIndentLinesUptoRow.holds Tryd.pinned (OpenSpec.upto fnExactIndentLinesSpec)

end Rows
end Go.Proofs.YtcghlhjlfppllaaDoor
