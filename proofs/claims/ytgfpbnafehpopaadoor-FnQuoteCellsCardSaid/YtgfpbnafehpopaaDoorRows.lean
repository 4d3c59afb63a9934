/-
  NARROWER THAN 'FOR EVERY INPUT', by the rows' own cells (each row's printed sentence says how): FnRenderRows: laid · FnReadRows: laid · FnQuoteCells: laid · FnReadCells: laid · FnExactReadRows: laid · FnExactQuoteCells: laid · FnExactReadCells: laid.
  DERIVED. THE GIVEN ROWS OF THIS SEAT. 7 by the template 'for every input the law returns true; each argument reads behind the call as it read before'; 0 by the template 'total and deterministic' (their statements: YtgfpbnafehpopaaDoorTotals.lean).
  GIVEN WITH THE SEED: the statements are not yours to turn. If you find one false, say at which input.
  Laid BY PROGRAM, IN A SANDBOX (cutbox-rows.mjs): the forced cells as the released guide's own fill.sh prints them over the translation 805dfc23f0031620… (all of the seat's roots in one cut). By AI agents, Wed Nov 11 2026. No macro, syntax, notation, axiom, sorry.
-/
import Derived.Test.YtgfpbnafehpopaaDoorChecked
import GoSem.PinnedTables
import GoSem.Claim
import GoSem.ClaimJoined
import GoSem.ClaimMapViews
import Derived.JoinedTies
import Derived.KernelRfl
namespace Go.Proofs.YtgfpbnafehpopaaDoor
/- THE CELL 'sum', in the pinned program and in every row, IS THE sha256 OF THE DUMP (.gsa) THAT YtgfpbnafehpopaaDoorProg.lean LOADS. Nothing in Lean hashes anything: it is a label: what it is worth is what the hold of that sum in a sandbox is worth. -/
noncomputable def Tryd.pinned : Pinned := { name := "ytgfpbnafehpopaadoor", sum := "805dfc23f0031620385695af3e0c04af165616fd402203ec7302fbf4f87b6804", checked := Tryd.checked }
namespace Rows
def none {H : Type} : Left H := { results := [], args := [] }

/- WHAT THE LISTED PACKAGE-LEVEL VARIABLES READ AS WHEN THE CALL BEGINS. Each datum BY PROGRAM (the guide's laid-datum.mjs) off the statement by which the dump's own 'gosem.cut.vars' lays the variable. In a bare row this is a premise. The card (YtgfpbnafehpopaaDoorCards.lean) ties it to the program's text. -/
def laid_unicode_utf8_acceptRanges {H : Type} : DataW H := .agg [.agg [.lit (.int .u8 128), .lit (.int .u8 191)], .agg [.lit (.int .u8 160), .lit (.int .u8 191)], .agg [.lit (.int .u8 128), .lit (.int .u8 159)], .agg [.lit (.int .u8 144), .lit (.int .u8 191)], .agg [.lit (.int .u8 128), .lit (.int .u8 143)], .agg [.lit (.int .u8 0), .lit (.int .u8 0)], .agg [.lit (.int .u8 0), .lit (.int .u8 0)], .agg [.lit (.int .u8 0), .lit (.int .u8 0)], .agg [.lit (.int .u8 0), .lit (.int .u8 0)], .agg [.lit (.int .u8 0), .lit (.int .u8 0)], .agg [.lit (.int .u8 0), .lit (.int .u8 0)], .agg [.lit (.int .u8 0), .lit (.int .u8 0)], .agg [.lit (.int .u8 0), .lit (.int .u8 0)], .agg [.lit (.int .u8 0), .lit (.int .u8 0)], .agg [.lit (.int .u8 0), .lit (.int .u8 0)], .agg [.lit (.int .u8 0), .lit (.int .u8 0)]]
/-- One of Go's own tables, pinned by name: the form's constant. -/
def laid_unicode_utf8_first : DataW Unit := Go.Pinned.utf8First

/-- 'laws.FnRenderRows': WHATEVER THE INPUT: true; the input reads as it did. -/
def fnRenderRowsSpec : ChangeSpec := { name := "fnRenderRows", fn := fun _ => fun
  | [d] => { results := [.lit (.bool true)], args := [d] }
  | _ => none }
def fnRenderRowsRow : OpenClaim := { program := "ytgfpbnafehpopaadoor", sum := "805dfc23f0031620385695af3e0c04af165616fd402203ec7302fbf4f87b6804", func := "loop.example/textsinlines/laws.FnRenderRows", spec := "fnRenderRows", inPlace := ["internal/abi.NoEscape", "internal/bytealg.MakeNoZero", "internal/bytealg.CountString", "internal/bytealg.IndexByteString", "internal/bytealg.IndexString"], unfollowed := true, recurses := true, named := ["unicode/utf8.first", "unicode/utf8.acceptRanges", "internal/bytealg.MaxLen"], apart := false, laid := [("unicode/utf8.acceptRanges", laid_unicode_utf8_acceptRanges), ("unicode/utf8.first", laid_unicode_utf8_first)] }
def FnRenderRowsSaid : Prop := fnRenderRowsRow.holds Tryd.pinned (OpenSpec.ofChange fnRenderRowsSpec)

/-- ITS FALSE NEIGHBOUR: 'it returns false'. Refute it at one input. -/
def fnRenderRowsWrong : ChangeSpec := { name := "fnRenderRows", fn := fun _ => fun
  | [d] => { results := [.lit (.bool false)], args := [d] }
  | _ => none }
def FnRenderRowsWrongFalsely : Prop := fnRenderRowsRow.holds Tryd.pinned (OpenSpec.ofChange fnRenderRowsWrong)

/-- 'laws.FnReadRows': WHATEVER THE INPUT: true; the input reads as it did. -/
def fnReadRowsSpec : ChangeSpec := { name := "fnReadRows", fn := fun _ => fun
  | [d] => { results := [.lit (.bool true)], args := [d] }
  | _ => none }
def fnReadRowsRow : OpenClaim := { program := "ytgfpbnafehpopaadoor", sum := "805dfc23f0031620385695af3e0c04af165616fd402203ec7302fbf4f87b6804", func := "loop.example/textsinlines/laws.FnReadRows", spec := "fnReadRows", inPlace := ["internal/bytealg.CountString", "internal/bytealg.IndexByteString", "internal/bytealg.IndexString", "internal/abi.NoEscape", "internal/bytealg.MakeNoZero"], unfollowed := true, recurses := true, named := ["unicode/utf8.first", "unicode/utf8.acceptRanges", "internal/bytealg.MaxLen"], apart := false, laid := [("unicode/utf8.acceptRanges", laid_unicode_utf8_acceptRanges), ("unicode/utf8.first", laid_unicode_utf8_first)] }
def FnReadRowsSaid : Prop := fnReadRowsRow.holds Tryd.pinned (OpenSpec.ofChange fnReadRowsSpec)

/-- ITS FALSE NEIGHBOUR: 'it returns false'. Refute it at one input. -/
def fnReadRowsWrong : ChangeSpec := { name := "fnReadRows", fn := fun _ => fun
  | [d] => { results := [.lit (.bool false)], args := [d] }
  | _ => none }
def FnReadRowsWrongFalsely : Prop := fnReadRowsRow.holds Tryd.pinned (OpenSpec.ofChange fnReadRowsWrong)

/-- 'laws.FnQuoteCells': WHATEVER THE INPUT: true; the input reads as it did. -/
def fnQuoteCellsSpec : ChangeSpec := { name := "fnQuoteCells", fn := fun _ => fun
  | [d] => { results := [.lit (.bool true)], args := [d] }
  | _ => none }
def fnQuoteCellsRow : OpenClaim := { program := "ytgfpbnafehpopaadoor", sum := "805dfc23f0031620385695af3e0c04af165616fd402203ec7302fbf4f87b6804", func := "loop.example/textsinlines/laws.FnQuoteCells", spec := "fnQuoteCells", inPlace := ["internal/bytealg.IndexByteString", "internal/bytealg.IndexString", "internal/bytealg.CountString", "internal/abi.NoEscape", "internal/bytealg.MakeNoZero"], unfollowed := true, recurses := true, named := ["internal/bytealg.MaxLen", "unicode/utf8.first", "unicode/utf8.acceptRanges"], apart := false, laid := [("unicode/utf8.acceptRanges", laid_unicode_utf8_acceptRanges), ("unicode/utf8.first", laid_unicode_utf8_first)] }
def FnQuoteCellsSaid : Prop := fnQuoteCellsRow.holds Tryd.pinned (OpenSpec.ofChange fnQuoteCellsSpec)

/-- ITS FALSE NEIGHBOUR: 'it returns false'. Refute it at one input. -/
def fnQuoteCellsWrong : ChangeSpec := { name := "fnQuoteCells", fn := fun _ => fun
  | [d] => { results := [.lit (.bool false)], args := [d] }
  | _ => none }
def FnQuoteCellsWrongFalsely : Prop := fnQuoteCellsRow.holds Tryd.pinned (OpenSpec.ofChange fnQuoteCellsWrong)

/-- 'laws.FnReadCells': WHATEVER THE INPUT: true; the input reads as it did. -/
def fnReadCellsSpec : ChangeSpec := { name := "fnReadCells", fn := fun _ => fun
  | [d] => { results := [.lit (.bool true)], args := [d] }
  | _ => none }
def fnReadCellsRow : OpenClaim := { program := "ytgfpbnafehpopaadoor", sum := "805dfc23f0031620385695af3e0c04af165616fd402203ec7302fbf4f87b6804", func := "loop.example/textsinlines/laws.FnReadCells", spec := "fnReadCells", inPlace := ["internal/bytealg.CountString", "internal/bytealg.IndexByteString", "internal/bytealg.IndexString", "internal/abi.NoEscape", "internal/bytealg.MakeNoZero"], unfollowed := true, recurses := true, named := ["internal/bytealg.MaxLen", "unicode/utf8.first", "unicode/utf8.acceptRanges"], apart := false, laid := [("unicode/utf8.acceptRanges", laid_unicode_utf8_acceptRanges), ("unicode/utf8.first", laid_unicode_utf8_first)] }
def FnReadCellsSaid : Prop := fnReadCellsRow.holds Tryd.pinned (OpenSpec.ofChange fnReadCellsSpec)

/-- ITS FALSE NEIGHBOUR: 'it returns false'. Refute it at one input. -/
def fnReadCellsWrong : ChangeSpec := { name := "fnReadCells", fn := fun _ => fun
  | [d] => { results := [.lit (.bool false)], args := [d] }
  | _ => none }
def FnReadCellsWrongFalsely : Prop := fnReadCellsRow.holds Tryd.pinned (OpenSpec.ofChange fnReadCellsWrong)

/-- 'laws.FnExactReadRows': WHATEVER THE INPUT: true; the input reads as it did. -/
def fnExactReadRowsSpec : ChangeSpec := { name := "fnExactReadRows", fn := fun _ => fun
  | [d] => { results := [.lit (.bool true)], args := [d] }
  | _ => none }
def fnExactReadRowsRow : OpenClaim := { program := "ytgfpbnafehpopaadoor", sum := "805dfc23f0031620385695af3e0c04af165616fd402203ec7302fbf4f87b6804", func := "loop.example/textsinlines/laws.FnExactReadRows", spec := "fnExactReadRows", inPlace := ["internal/bytealg.CountString", "internal/bytealg.IndexByteString", "internal/bytealg.IndexString"], unfollowed := true, recurses := true, named := ["unicode/utf8.first", "unicode/utf8.acceptRanges", "internal/bytealg.MaxLen"], apart := false, laid := [("unicode/utf8.acceptRanges", laid_unicode_utf8_acceptRanges), ("unicode/utf8.first", laid_unicode_utf8_first)] }
def FnExactReadRowsSaid : Prop := fnExactReadRowsRow.holds Tryd.pinned (OpenSpec.ofChange fnExactReadRowsSpec)

/-- ITS FALSE NEIGHBOUR: 'it returns false'. Refute it at one input. -/
def fnExactReadRowsWrong : ChangeSpec := { name := "fnExactReadRows", fn := fun _ => fun
  | [d] => { results := [.lit (.bool false)], args := [d] }
  | _ => none }
def FnExactReadRowsWrongFalsely : Prop := fnExactReadRowsRow.holds Tryd.pinned (OpenSpec.ofChange fnExactReadRowsWrong)

/-- 'laws.FnExactQuoteCells': WHATEVER THE INPUT: true; the input reads as it did. -/
def fnExactQuoteCellsSpec : ChangeSpec := { name := "fnExactQuoteCells", fn := fun _ => fun
  | [d] => { results := [.lit (.bool true)], args := [d] }
  | _ => none }
def fnExactQuoteCellsRow : OpenClaim := { program := "ytgfpbnafehpopaadoor", sum := "805dfc23f0031620385695af3e0c04af165616fd402203ec7302fbf4f87b6804", func := "loop.example/textsinlines/laws.FnExactQuoteCells", spec := "fnExactQuoteCells", inPlace := ["internal/bytealg.IndexByteString", "internal/bytealg.IndexString", "internal/bytealg.CountString", "internal/abi.NoEscape", "internal/bytealg.MakeNoZero"], unfollowed := true, recurses := true, named := ["internal/bytealg.MaxLen", "unicode/utf8.first", "unicode/utf8.acceptRanges"], apart := false, laid := [("unicode/utf8.acceptRanges", laid_unicode_utf8_acceptRanges), ("unicode/utf8.first", laid_unicode_utf8_first)] }
def FnExactQuoteCellsSaid : Prop := fnExactQuoteCellsRow.holds Tryd.pinned (OpenSpec.ofChange fnExactQuoteCellsSpec)

/-- ITS FALSE NEIGHBOUR: 'it returns false'. Refute it at one input. -/
def fnExactQuoteCellsWrong : ChangeSpec := { name := "fnExactQuoteCells", fn := fun _ => fun
  | [d] => { results := [.lit (.bool false)], args := [d] }
  | _ => none }
def FnExactQuoteCellsWrongFalsely : Prop := fnExactQuoteCellsRow.holds Tryd.pinned (OpenSpec.ofChange fnExactQuoteCellsWrong)

/-- 'laws.FnExactReadCells': WHATEVER THE INPUT: true; the input reads as it did. -/
def fnExactReadCellsSpec : ChangeSpec := { name := "fnExactReadCells", fn := fun _ => fun
  | [d] => { results := [.lit (.bool true)], args := [d] }
  | _ => none }
def fnExactReadCellsRow : OpenClaim := { program := "ytgfpbnafehpopaadoor", sum := "805dfc23f0031620385695af3e0c04af165616fd402203ec7302fbf4f87b6804", func := "loop.example/textsinlines/laws.FnExactReadCells", spec := "fnExactReadCells", inPlace := ["internal/bytealg.CountString", "internal/bytealg.IndexByteString", "internal/bytealg.IndexString", "internal/abi.NoEscape", "internal/bytealg.MakeNoZero"], unfollowed := true, recurses := true, named := ["internal/bytealg.MaxLen", "unicode/utf8.first", "unicode/utf8.acceptRanges"], apart := false, laid := [("unicode/utf8.acceptRanges", laid_unicode_utf8_acceptRanges), ("unicode/utf8.first", laid_unicode_utf8_first)] }
def FnExactReadCellsSaid : Prop := fnExactReadCellsRow.holds Tryd.pinned (OpenSpec.ofChange fnExactReadCellsSpec)

/-- ITS FALSE NEIGHBOUR: 'it returns false'. Refute it at one input. -/
def fnExactReadCellsWrong : ChangeSpec := { name := "fnExactReadCells", fn := fun _ => fun
  | [d] => { results := [.lit (.bool false)], args := [d] }
  | _ => none }
def FnExactReadCellsWrongFalsely : Prop := fnExactReadCellsRow.holds Tryd.pinned (OpenSpec.ofChange fnExactReadCellsWrong)

/- THE SECOND FORM. 'bulk': how many values and letters a reading holds, each counted each time it is reached (what is shared counts as often as it is met; a slice's spare places count too). A statement '..UptoSaid' is the law's where the arguments, and the package variables that the reading takes, are together of bulk at most 1048576: NARROWER than '..Said'. Prove '..Said' where nothing that the law and all that it calls make is longer than what came in: it says more and counts as full. Else prove '..UptoSaid'. A law counts once. -/
mutual
def uptoBulk {H : Type} : DataW H → Nat
  | .lit (.string bytes) => bytes.length + 1
  | .lit _ => 1
  | .nil => 1
  | .ptr d => uptoBulk d + 1
  | .slice elems spare => uptoBulkAll elems + uptoBulkAll spare + 1
  | .agg parts => uptoBulkAll parts + 1
  | .iface _ d => uptoBulk d + 1
  | .map entries => uptoBulkEntries entries + 1
  | .held _ => 1
def uptoBulkAll {H : Type} : List (DataW H) → Nat
  | [] => 0
  | d :: r => uptoBulk d + uptoBulkAll r
def uptoBulkEntries {H : Type} : List (Lit × DataW H) → Nat
  | [] => 0
  | x :: r => uptoBulkEntry x + uptoBulkEntries r
def uptoBulkEntry {H : Type} : Lit × DataW H → Nat
  | (.string bytes, d) => bytes.length + uptoBulk d + 1
  | (_, d) => uptoBulk d + 1
 end
def uptoSmall : (H : Type) → List (DataW H) → Bool := fun _ ds => decide (uptoBulkAll ds ≤ 1048576)
def OpenSpec.upto (s : _root_.Go.ChangeSpec) : _root_.Go.OpenSpec := { _root_.Go.OpenSpec.ofChange s with cond := some uptoSmall }

/-- 'laws.FnRenderRows', WHERE WHAT IT READS IS OF BULK AT MOST 1048576: true; the input reads as it did. -/
def fnRenderRowsUptoRow : OpenClaim := { program := "ytgfpbnafehpopaadoor", sum := "805dfc23f0031620385695af3e0c04af165616fd402203ec7302fbf4f87b6804", func := "loop.example/textsinlines/laws.FnRenderRows", spec := "fnRenderRows", inPlace := ["internal/abi.NoEscape", "internal/bytealg.MakeNoZero", "internal/bytealg.CountString", "internal/bytealg.IndexByteString", "internal/bytealg.IndexString"], unfollowed := true, recurses := true, named := ["unicode/utf8.first", "unicode/utf8.acceptRanges", "internal/bytealg.MaxLen"], apart := false, laid := [("unicode/utf8.acceptRanges", laid_unicode_utf8_acceptRanges), ("unicode/utf8.first", laid_unicode_utf8_first)], narrowed := true }
def FnRenderRowsUptoSaid : Prop := fnRenderRowsUptoRow.holds Tryd.pinned (OpenSpec.upto fnRenderRowsSpec)

/-- 'laws.FnReadRows', WHERE WHAT IT READS IS OF BULK AT MOST 1048576: true; the input reads as it did. -/
def fnReadRowsUptoRow : OpenClaim := { program := "ytgfpbnafehpopaadoor", sum := "805dfc23f0031620385695af3e0c04af165616fd402203ec7302fbf4f87b6804", func := "loop.example/textsinlines/laws.FnReadRows", spec := "fnReadRows", inPlace := ["internal/bytealg.CountString", "internal/bytealg.IndexByteString", "internal/bytealg.IndexString", "internal/abi.NoEscape", "internal/bytealg.MakeNoZero"], unfollowed := true, recurses := true, named := ["unicode/utf8.first", "unicode/utf8.acceptRanges", "internal/bytealg.MaxLen"], apart := false, laid := [("unicode/utf8.acceptRanges", laid_unicode_utf8_acceptRanges), ("unicode/utf8.first", laid_unicode_utf8_first)], narrowed := true }
def FnReadRowsUptoSaid : Prop := fnReadRowsUptoRow.holds Tryd.pinned (OpenSpec.upto fnReadRowsSpec)

/-- 'laws.FnQuoteCells', WHERE WHAT IT READS IS OF BULK AT MOST 1048576: true; the input reads as it did. -/
def fnQuoteCellsUptoRow : OpenClaim := { program := "ytgfpbnafehpopaadoor", sum := "805dfc23f0031620385695af3e0c04af165616fd402203ec7302fbf4f87b6804", func := "loop.example/textsinlines/laws.FnQuoteCells", spec := "fnQuoteCells", inPlace := ["internal/bytealg.IndexByteString", "internal/bytealg.IndexString", "internal/bytealg.CountString", "internal/abi.NoEscape", "internal/bytealg.MakeNoZero"], unfollowed := true, recurses := true, named := ["internal/bytealg.MaxLen", "unicode/utf8.first", "unicode/utf8.acceptRanges"], apart := false, laid := [("unicode/utf8.acceptRanges", laid_unicode_utf8_acceptRanges), ("unicode/utf8.first", laid_unicode_utf8_first)], narrowed := true }
def FnQuoteCellsUptoSaid : Prop := fnQuoteCellsUptoRow.holds Tryd.pinned (OpenSpec.upto fnQuoteCellsSpec)

/-- 'laws.FnReadCells', WHERE WHAT IT READS IS OF BULK AT MOST 1048576: true; the input reads as it did. -/
def fnReadCellsUptoRow : OpenClaim := { program := "ytgfpbnafehpopaadoor", sum := "805dfc23f0031620385695af3e0c04af165616fd402203ec7302fbf4f87b6804", func := "loop.example/textsinlines/laws.FnReadCells", spec := "fnReadCells", inPlace := ["internal/bytealg.CountString", "internal/bytealg.IndexByteString", "internal/bytealg.IndexString", "internal/abi.NoEscape", "internal/bytealg.MakeNoZero"], unfollowed := true, recurses := true, named := ["internal/bytealg.MaxLen", "unicode/utf8.first", "unicode/utf8.acceptRanges"], apart := false, laid := [("unicode/utf8.acceptRanges", laid_unicode_utf8_acceptRanges), ("unicode/utf8.first", laid_unicode_utf8_first)], narrowed := true }
def FnReadCellsUptoSaid : Prop := fnReadCellsUptoRow.holds Tryd.pinned (OpenSpec.upto fnReadCellsSpec)

/-- 'laws.FnExactReadRows', WHERE WHAT IT READS IS OF BULK AT MOST 1048576: true; the input reads as it did. -/
def fnExactReadRowsUptoRow : OpenClaim := { program := "ytgfpbnafehpopaadoor", sum := "805dfc23f0031620385695af3e0c04af165616fd402203ec7302fbf4f87b6804", func := "loop.example/textsinlines/laws.FnExactReadRows", spec := "fnExactReadRows", inPlace := ["internal/bytealg.CountString", "internal/bytealg.IndexByteString", "internal/bytealg.IndexString"], unfollowed := true, recurses := true, named := ["unicode/utf8.first", "unicode/utf8.acceptRanges", "internal/bytealg.MaxLen"], apart := false, laid := [("unicode/utf8.acceptRanges", laid_unicode_utf8_acceptRanges), ("unicode/utf8.first", laid_unicode_utf8_first)], narrowed := true }
def FnExactReadRowsUptoSaid : Prop := fnExactReadRowsUptoRow.holds Tryd.pinned (OpenSpec.upto fnExactReadRowsSpec)

/-- 'laws.FnExactQuoteCells', WHERE WHAT IT READS IS OF BULK AT MOST 1048576: true; the input reads as it did. -/
def fnExactQuoteCellsUptoRow : OpenClaim := { program := "ytgfpbnafehpopaadoor", sum := "805dfc23f0031620385695af3e0c04af165616fd402203ec7302fbf4f87b6804", func := "loop.example/textsinlines/laws.FnExactQuoteCells", spec := "fnExactQuoteCells", inPlace := ["internal/bytealg.IndexByteString", "internal/bytealg.IndexString", "internal/bytealg.CountString", "internal/abi.NoEscape", "internal/bytealg.MakeNoZero"], unfollowed := true, recurses := true, named := ["internal/bytealg.MaxLen", "unicode/utf8.first", "unicode/utf8.acceptRanges"], apart := false, laid := [("unicode/utf8.acceptRanges", laid_unicode_utf8_acceptRanges), ("unicode/utf8.first", laid_unicode_utf8_first)], narrowed := true }
def FnExactQuoteCellsUptoSaid : Prop := fnExactQuoteCellsUptoRow.holds Tryd.pinned (OpenSpec.upto fnExactQuoteCellsSpec)

/-- 'laws.FnExactReadCells', WHERE WHAT IT READS IS OF BULK AT MOST 1048576: true; the input reads as it did. -/
def fnExactReadCellsUptoRow : OpenClaim := { program := "ytgfpbnafehpopaadoor", sum := "805dfc23f0031620385695af3e0c04af165616fd402203ec7302fbf4f87b6804", func := "loop.example/textsinlines/laws.FnExactReadCells", spec := "fnExactReadCells", inPlace := ["internal/bytealg.CountString", "internal/bytealg.IndexByteString", "internal/bytealg.IndexString", "internal/abi.NoEscape", "internal/bytealg.MakeNoZero"], unfollowed := true, recurses := true, named := ["internal/bytealg.MaxLen", "unicode/utf8.first", "unicode/utf8.acceptRanges"], apart := false, laid := [("unicode/utf8.acceptRanges", laid_unicode_utf8_acceptRanges), ("unicode/utf8.first", laid_unicode_utf8_first)], narrowed := true }
def FnExactReadCellsUptoSaid : Prop := fnExactReadCellsUptoRow.holds Tryd.pinned (OpenSpec.upto fnExactReadCellsSpec)

end Rows
end Go.Proofs.YtgfpbnafehpopaaDoor
