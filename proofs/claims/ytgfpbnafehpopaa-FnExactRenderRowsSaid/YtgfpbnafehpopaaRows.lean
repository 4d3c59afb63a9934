/-
  No cell of these rows narrows 'for every input' (looked for: loops, veiled, ifaces, maps, wideKeys, modest, calm, conditions, laid).
  DERIVED. THE GIVEN ROWS OF THIS SEAT. 11 by the template 'for every input the law returns true; each argument reads behind the call as it read before'; 0 by the template 'total and deterministic' (their statements: YtgfpbnafehpopaaTotals.lean).
  GIVEN WITH THE SEED: the statements are not yours to turn. If you find one false, say at which input.
  Laid BY PROGRAM, IN A SANDBOX (cutbox-rows.mjs): the forced cells as the released guide's own fill.sh prints them over the translation 6d1734ef441421a1… (all of the seat's roots in one cut). By AI agents, Wed Nov 11 2026. No macro, syntax, notation, axiom, sorry.
-/
import Derived.Test.YtgfpbnafehpopaaChecked
import GoSem.Claim
import GoSem.ClaimJoined
import GoSem.ClaimMapViews
import Derived.JoinedTies
import Derived.KernelRfl
namespace Go.Proofs.Ytgfpbnafehpopaa
/- THE CELL 'sum', in the pinned program and in every row, IS THE sha256 OF THE DUMP (.gsa) THAT YtgfpbnafehpopaaProg.lean LOADS. Nothing in Lean hashes anything: it is a label: what it is worth is what the hold of that sum in a sandbox is worth. -/
noncomputable def Try.pinned : Pinned := { name := "ytgfpbnafehpopaa", sum := "6d1734ef441421a1b0a2d62cbdb1862177ebbfb399135a5920c2a2c5eb9f5e65", checked := Try.checked }
namespace Rows
def none {H : Type} : Left H := { results := [], args := [] }

/-- 'laws.FnPadText': WHATEVER THE INPUT: true; the input reads as it did. -/
def fnPadTextSpec : ChangeSpec := { name := "fnPadText", fn := fun _ => fun
  | [d] => { results := [.lit (.bool true)], args := [d] }
  | _ => none }
def fnPadTextRow : OpenClaim := { program := "ytgfpbnafehpopaa", sum := "6d1734ef441421a1b0a2d62cbdb1862177ebbfb399135a5920c2a2c5eb9f5e65", func := "loop.example/textsinlines/laws.FnPadText", spec := "fnPadText", inPlace := ["internal/abi.NoEscape", "internal/bytealg.MakeNoZero"], apart := false }
def FnPadTextSaid : Prop := fnPadTextRow.holds Try.pinned (OpenSpec.ofChange fnPadTextSpec)

/-- ITS FALSE NEIGHBOUR: 'it returns false'. Refute it at one input. -/
def fnPadTextWrong : ChangeSpec := { name := "fnPadText", fn := fun _ => fun
  | [d] => { results := [.lit (.bool false)], args := [d] }
  | _ => none }
def FnPadTextWrongFalsely : Prop := fnPadTextRow.holds Try.pinned (OpenSpec.ofChange fnPadTextWrong)

/-- 'laws.FnValidRows': WHATEVER THE INPUT: true; the input reads as it did. -/
def fnValidRowsSpec : ChangeSpec := { name := "fnValidRows", fn := fun _ => fun
  | [d] => { results := [.lit (.bool true)], args := [d] }
  | _ => none }
def fnValidRowsRow : OpenClaim := { program := "ytgfpbnafehpopaa", sum := "6d1734ef441421a1b0a2d62cbdb1862177ebbfb399135a5920c2a2c5eb9f5e65", func := "loop.example/textsinlines/laws.FnValidRows", spec := "fnValidRows", apart := false }
def FnValidRowsSaid : Prop := fnValidRowsRow.holds Try.pinned (OpenSpec.ofChange fnValidRowsSpec)

/-- ITS FALSE NEIGHBOUR: 'it returns false'. Refute it at one input. -/
def fnValidRowsWrong : ChangeSpec := { name := "fnValidRows", fn := fun _ => fun
  | [d] => { results := [.lit (.bool false)], args := [d] }
  | _ => none }
def FnValidRowsWrongFalsely : Prop := fnValidRowsRow.holds Try.pinned (OpenSpec.ofChange fnValidRowsWrong)

/-- 'laws.FnColumnWidths': WHATEVER THE INPUT: true; the input reads as it did. -/
def fnColumnWidthsSpec : ChangeSpec := { name := "fnColumnWidths", fn := fun _ => fun
  | [d] => { results := [.lit (.bool true)], args := [d] }
  | _ => none }
def fnColumnWidthsRow : OpenClaim := { program := "ytgfpbnafehpopaa", sum := "6d1734ef441421a1b0a2d62cbdb1862177ebbfb399135a5920c2a2c5eb9f5e65", func := "loop.example/textsinlines/laws.FnColumnWidths", spec := "fnColumnWidths", apart := false }
def FnColumnWidthsSaid : Prop := fnColumnWidthsRow.holds Try.pinned (OpenSpec.ofChange fnColumnWidthsSpec)

/-- ITS FALSE NEIGHBOUR: 'it returns false'. Refute it at one input. -/
def fnColumnWidthsWrong : ChangeSpec := { name := "fnColumnWidths", fn := fun _ => fun
  | [d] => { results := [.lit (.bool false)], args := [d] }
  | _ => none }
def FnColumnWidthsWrongFalsely : Prop := fnColumnWidthsRow.holds Try.pinned (OpenSpec.ofChange fnColumnWidthsWrong)

/-- 'laws.FnTurnRows': WHATEVER THE INPUT: true; the input reads as it did. -/
def fnTurnRowsSpec : ChangeSpec := { name := "fnTurnRows", fn := fun _ => fun
  | [d] => { results := [.lit (.bool true)], args := [d] }
  | _ => none }
def fnTurnRowsRow : OpenClaim := { program := "ytgfpbnafehpopaa", sum := "6d1734ef441421a1b0a2d62cbdb1862177ebbfb399135a5920c2a2c5eb9f5e65", func := "loop.example/textsinlines/laws.FnTurnRows", spec := "fnTurnRows", apart := false }
def FnTurnRowsSaid : Prop := fnTurnRowsRow.holds Try.pinned (OpenSpec.ofChange fnTurnRowsSpec)

/-- ITS FALSE NEIGHBOUR: 'it returns false'. Refute it at one input. -/
def fnTurnRowsWrong : ChangeSpec := { name := "fnTurnRows", fn := fun _ => fun
  | [d] => { results := [.lit (.bool false)], args := [d] }
  | _ => none }
def FnTurnRowsWrongFalsely : Prop := fnTurnRowsRow.holds Try.pinned (OpenSpec.ofChange fnTurnRowsWrong)

/-- 'laws.FnWrapCells': WHATEVER THE INPUT: true; the input reads as it did. -/
def fnWrapCellsSpec : ChangeSpec := { name := "fnWrapCells", fn := fun _ => fun
  | [d] => { results := [.lit (.bool true)], args := [d] }
  | _ => none }
def fnWrapCellsRow : OpenClaim := { program := "ytgfpbnafehpopaa", sum := "6d1734ef441421a1b0a2d62cbdb1862177ebbfb399135a5920c2a2c5eb9f5e65", func := "loop.example/textsinlines/laws.FnWrapCells", spec := "fnWrapCells", inPlace := ["internal/bytealg.IndexByteString", "internal/bytealg.IndexString", "internal/abi.NoEscape", "internal/bytealg.MakeNoZero"], named := ["internal/bytealg.MaxLen"], apart := false }
def FnWrapCellsSaid : Prop := fnWrapCellsRow.holds Try.pinned (OpenSpec.ofChange fnWrapCellsSpec)

/-- ITS FALSE NEIGHBOUR: 'it returns false'. Refute it at one input. -/
def fnWrapCellsWrong : ChangeSpec := { name := "fnWrapCells", fn := fun _ => fun
  | [d] => { results := [.lit (.bool false)], args := [d] }
  | _ => none }
def FnWrapCellsWrongFalsely : Prop := fnWrapCellsRow.holds Try.pinned (OpenSpec.ofChange fnWrapCellsWrong)

/-- 'laws.FnExactPadText': WHATEVER THE INPUT: true; the input reads as it did. -/
def fnExactPadTextSpec : ChangeSpec := { name := "fnExactPadText", fn := fun _ => fun
  | [d1, d2, d3] => { results := [.lit (.bool true)], args := [d1, d2, d3] }
  | _ => none }
def fnExactPadTextRow : OpenClaim := { program := "ytgfpbnafehpopaa", sum := "6d1734ef441421a1b0a2d62cbdb1862177ebbfb399135a5920c2a2c5eb9f5e65", func := "loop.example/textsinlines/laws.FnExactPadText", spec := "fnExactPadText", inPlace := ["internal/abi.NoEscape", "internal/bytealg.MakeNoZero"], apart := false }
def FnExactPadTextSaid : Prop := fnExactPadTextRow.holds Try.pinned (OpenSpec.ofChange fnExactPadTextSpec)

/-- ITS FALSE NEIGHBOUR: 'it returns false'. Refute it at one input. -/
def fnExactPadTextWrong : ChangeSpec := { name := "fnExactPadText", fn := fun _ => fun
  | [d1, d2, d3] => { results := [.lit (.bool false)], args := [d1, d2, d3] }
  | _ => none }
def FnExactPadTextWrongFalsely : Prop := fnExactPadTextRow.holds Try.pinned (OpenSpec.ofChange fnExactPadTextWrong)

/-- 'laws.FnExactValidRows': WHATEVER THE INPUT: true; the input reads as it did. -/
def fnExactValidRowsSpec : ChangeSpec := { name := "fnExactValidRows", fn := fun _ => fun
  | [d] => { results := [.lit (.bool true)], args := [d] }
  | _ => none }
def fnExactValidRowsRow : OpenClaim := { program := "ytgfpbnafehpopaa", sum := "6d1734ef441421a1b0a2d62cbdb1862177ebbfb399135a5920c2a2c5eb9f5e65", func := "loop.example/textsinlines/laws.FnExactValidRows", spec := "fnExactValidRows", apart := false }
def FnExactValidRowsSaid : Prop := fnExactValidRowsRow.holds Try.pinned (OpenSpec.ofChange fnExactValidRowsSpec)

/-- ITS FALSE NEIGHBOUR: 'it returns false'. Refute it at one input. -/
def fnExactValidRowsWrong : ChangeSpec := { name := "fnExactValidRows", fn := fun _ => fun
  | [d] => { results := [.lit (.bool false)], args := [d] }
  | _ => none }
def FnExactValidRowsWrongFalsely : Prop := fnExactValidRowsRow.holds Try.pinned (OpenSpec.ofChange fnExactValidRowsWrong)

/-- 'laws.FnExactColumnWidths': WHATEVER THE INPUT: true; the input reads as it did. -/
def fnExactColumnWidthsSpec : ChangeSpec := { name := "fnExactColumnWidths", fn := fun _ => fun
  | [d] => { results := [.lit (.bool true)], args := [d] }
  | _ => none }
def fnExactColumnWidthsRow : OpenClaim := { program := "ytgfpbnafehpopaa", sum := "6d1734ef441421a1b0a2d62cbdb1862177ebbfb399135a5920c2a2c5eb9f5e65", func := "loop.example/textsinlines/laws.FnExactColumnWidths", spec := "fnExactColumnWidths", apart := false }
def FnExactColumnWidthsSaid : Prop := fnExactColumnWidthsRow.holds Try.pinned (OpenSpec.ofChange fnExactColumnWidthsSpec)

/-- ITS FALSE NEIGHBOUR: 'it returns false'. Refute it at one input. -/
def fnExactColumnWidthsWrong : ChangeSpec := { name := "fnExactColumnWidths", fn := fun _ => fun
  | [d] => { results := [.lit (.bool false)], args := [d] }
  | _ => none }
def FnExactColumnWidthsWrongFalsely : Prop := fnExactColumnWidthsRow.holds Try.pinned (OpenSpec.ofChange fnExactColumnWidthsWrong)

/-- 'laws.FnExactRenderRows': WHATEVER THE INPUT: true; the input reads as it did. -/
def fnExactRenderRowsSpec : ChangeSpec := { name := "fnExactRenderRows", fn := fun _ => fun
  | [d1, d2] => { results := [.lit (.bool true)], args := [d1, d2] }
  | _ => none }
def fnExactRenderRowsRow : OpenClaim := { program := "ytgfpbnafehpopaa", sum := "6d1734ef441421a1b0a2d62cbdb1862177ebbfb399135a5920c2a2c5eb9f5e65", func := "loop.example/textsinlines/laws.FnExactRenderRows", spec := "fnExactRenderRows", inPlace := ["internal/abi.NoEscape", "internal/bytealg.MakeNoZero"], unfollowed := true, recurses := true, apart := false }
def FnExactRenderRowsSaid : Prop := fnExactRenderRowsRow.holds Try.pinned (OpenSpec.ofChange fnExactRenderRowsSpec)

/-- ITS FALSE NEIGHBOUR: 'it returns false'. Refute it at one input. -/
def fnExactRenderRowsWrong : ChangeSpec := { name := "fnExactRenderRows", fn := fun _ => fun
  | [d1, d2] => { results := [.lit (.bool false)], args := [d1, d2] }
  | _ => none }
def FnExactRenderRowsWrongFalsely : Prop := fnExactRenderRowsRow.holds Try.pinned (OpenSpec.ofChange fnExactRenderRowsWrong)

/-- 'laws.FnExactTurnRows': WHATEVER THE INPUT: true; the input reads as it did. -/
def fnExactTurnRowsSpec : ChangeSpec := { name := "fnExactTurnRows", fn := fun _ => fun
  | [d] => { results := [.lit (.bool true)], args := [d] }
  | _ => none }
def fnExactTurnRowsRow : OpenClaim := { program := "ytgfpbnafehpopaa", sum := "6d1734ef441421a1b0a2d62cbdb1862177ebbfb399135a5920c2a2c5eb9f5e65", func := "loop.example/textsinlines/laws.FnExactTurnRows", spec := "fnExactTurnRows", apart := false }
def FnExactTurnRowsSaid : Prop := fnExactTurnRowsRow.holds Try.pinned (OpenSpec.ofChange fnExactTurnRowsSpec)

/-- ITS FALSE NEIGHBOUR: 'it returns false'. Refute it at one input. -/
def fnExactTurnRowsWrong : ChangeSpec := { name := "fnExactTurnRows", fn := fun _ => fun
  | [d] => { results := [.lit (.bool false)], args := [d] }
  | _ => none }
def FnExactTurnRowsWrongFalsely : Prop := fnExactTurnRowsRow.holds Try.pinned (OpenSpec.ofChange fnExactTurnRowsWrong)

/-- 'laws.FnExactWrapCells': WHATEVER THE INPUT: true; the input reads as it did. -/
def fnExactWrapCellsSpec : ChangeSpec := { name := "fnExactWrapCells", fn := fun _ => fun
  | [d1, d2] => { results := [.lit (.bool true)], args := [d1, d2] }
  | _ => none }
def fnExactWrapCellsRow : OpenClaim := { program := "ytgfpbnafehpopaa", sum := "6d1734ef441421a1b0a2d62cbdb1862177ebbfb399135a5920c2a2c5eb9f5e65", func := "loop.example/textsinlines/laws.FnExactWrapCells", spec := "fnExactWrapCells", inPlace := ["internal/bytealg.IndexByteString", "internal/bytealg.IndexString", "internal/abi.NoEscape", "internal/bytealg.MakeNoZero"], named := ["internal/bytealg.MaxLen"], apart := false }
def FnExactWrapCellsSaid : Prop := fnExactWrapCellsRow.holds Try.pinned (OpenSpec.ofChange fnExactWrapCellsSpec)

/-- ITS FALSE NEIGHBOUR: 'it returns false'. Refute it at one input. -/
def fnExactWrapCellsWrong : ChangeSpec := { name := "fnExactWrapCells", fn := fun _ => fun
  | [d1, d2] => { results := [.lit (.bool false)], args := [d1, d2] }
  | _ => none }
def FnExactWrapCellsWrongFalsely : Prop := fnExactWrapCellsRow.holds Try.pinned (OpenSpec.ofChange fnExactWrapCellsWrong)

/- THE SECOND FORM. 'bulk': how many values and letters a reading holds, each counted each time it is reached (what is shared counts as often as it is met; a slice's spare places count too). A statement '..UptoSaid' is the law's where the arguments, and the package variables that the reading takes, are together of bulk at most 1048576: NARROWER than '..Said'. Prove '..Said' where nothing that the law and all that it calls make is longer than what came in: it says more and counts as full. Else prove '..UptoSaid'. A law counts once. -/
mutual
def uptoBulk {H : Type} : DataW H → Nat
  | .lit (.string bytes) => bytes.length + 1
  | .lit _ => 1
  | .nil => 1
  | .ptr d => uptoBulk d + 1
  | .slice elems spare => uptoBulkAll elems + uptoBulkAll spare + 1
  | .agg parts => uptoBulkAll parts + 1
  | .iface _ d => uptoBulk d + 1
  | .map entries => uptoBulkEntries entries + 1
  | .held _ => 1
def uptoBulkAll {H : Type} : List (DataW H) → Nat
  | [] => 0
  | d :: r => uptoBulk d + uptoBulkAll r
def uptoBulkEntries {H : Type} : List (Lit × DataW H) → Nat
  | [] => 0
  | x :: r => uptoBulkEntry x + uptoBulkEntries r
def uptoBulkEntry {H : Type} : Lit × DataW H → Nat
  | (.string bytes, d) => bytes.length + uptoBulk d + 1
  | (_, d) => uptoBulk d + 1
 end
def uptoSmall : (H : Type) → List (DataW H) → Bool := fun _ ds => decide (uptoBulkAll ds ≤ 1048576)
def OpenSpec.upto (s : _root_.Go.ChangeSpec) : _root_.Go.OpenSpec := { _root_.Go.OpenSpec.ofChange s with cond := some uptoSmall }

/-- 'laws.FnPadText', WHERE WHAT IT READS IS OF BULK AT MOST 1048576: true; the input reads as it did. -/
def fnPadTextUptoRow : OpenClaim := { program := "ytgfpbnafehpopaa", sum := "6d1734ef441421a1b0a2d62cbdb1862177ebbfb399135a5920c2a2c5eb9f5e65", func := "loop.example/textsinlines/laws.FnPadText", spec := "fnPadText", inPlace := ["internal/abi.NoEscape", "internal/bytealg.MakeNoZero"], apart := false, narrowed := true }
def FnPadTextUptoSaid : Prop := fnPadTextUptoRow.holds Try.pinned (OpenSpec.upto fnPadTextSpec)

/-- 'laws.FnValidRows', WHERE WHAT IT READS IS OF BULK AT MOST 1048576: true; the input reads as it did. -/
def fnValidRowsUptoRow : OpenClaim := { program := "ytgfpbnafehpopaa", sum := "6d1734ef441421a1b0a2d62cbdb1862177ebbfb399135a5920c2a2c5eb9f5e65", func := "loop.example/textsinlines/laws.FnValidRows", spec := "fnValidRows", apart := false, narrowed := true }
def FnValidRowsUptoSaid : Prop := fnValidRowsUptoRow.holds Try.pinned (OpenSpec.upto fnValidRowsSpec)

/-- 'laws.FnColumnWidths', WHERE WHAT IT READS IS OF BULK AT MOST 1048576: true; the input reads as it did. -/
def fnColumnWidthsUptoRow : OpenClaim := { program := "ytgfpbnafehpopaa", sum := "6d1734ef441421a1b0a2d62cbdb1862177ebbfb399135a5920c2a2c5eb9f5e65", func := "loop.example/textsinlines/laws.FnColumnWidths", spec := "fnColumnWidths", apart := false, narrowed := true }
def FnColumnWidthsUptoSaid : Prop := fnColumnWidthsUptoRow.holds Try.pinned (OpenSpec.upto fnColumnWidthsSpec)

/-- 'laws.FnTurnRows', WHERE WHAT IT READS IS OF BULK AT MOST 1048576: true; the input reads as it did. -/
def fnTurnRowsUptoRow : OpenClaim := { program := "ytgfpbnafehpopaa", sum := "6d1734ef441421a1b0a2d62cbdb1862177ebbfb399135a5920c2a2c5eb9f5e65", func := "loop.example/textsinlines/laws.FnTurnRows", spec := "fnTurnRows", apart := false, narrowed := true }
def FnTurnRowsUptoSaid : Prop := fnTurnRowsUptoRow.holds Try.pinned (OpenSpec.upto fnTurnRowsSpec)

/-- 'laws.FnWrapCells', WHERE WHAT IT READS IS OF BULK AT MOST 1048576: true; the input reads as it did. -/
def fnWrapCellsUptoRow : OpenClaim := { program := "ytgfpbnafehpopaa", sum := "6d1734ef441421a1b0a2d62cbdb1862177ebbfb399135a5920c2a2c5eb9f5e65", func := "loop.example/textsinlines/laws.FnWrapCells", spec := "fnWrapCells", inPlace := ["internal/bytealg.IndexByteString", "internal/bytealg.IndexString", "internal/abi.NoEscape", "internal/bytealg.MakeNoZero"], named := ["internal/bytealg.MaxLen"], apart := false, narrowed := true }
def FnWrapCellsUptoSaid : Prop := fnWrapCellsUptoRow.holds Try.pinned (OpenSpec.upto fnWrapCellsSpec)

/-- 'laws.FnExactPadText', WHERE WHAT IT READS IS OF BULK AT MOST 1048576: true; the input reads as it did. -/
def fnExactPadTextUptoRow : OpenClaim := { program := "ytgfpbnafehpopaa", sum := "6d1734ef441421a1b0a2d62cbdb1862177ebbfb399135a5920c2a2c5eb9f5e65", func := "loop.example/textsinlines/laws.FnExactPadText", spec := "fnExactPadText", inPlace := ["internal/abi.NoEscape", "internal/bytealg.MakeNoZero"], apart := false, narrowed := true }
def FnExactPadTextUptoSaid : Prop := fnExactPadTextUptoRow.holds Try.pinned (OpenSpec.upto fnExactPadTextSpec)

/-- 'laws.FnExactValidRows', WHERE WHAT IT READS IS OF BULK AT MOST 1048576: true; the input reads as it did. -/
def fnExactValidRowsUptoRow : OpenClaim := { program := "ytgfpbnafehpopaa", sum := "6d1734ef441421a1b0a2d62cbdb1862177ebbfb399135a5920c2a2c5eb9f5e65", func := "loop.example/textsinlines/laws.FnExactValidRows", spec := "fnExactValidRows", apart := false, narrowed := true }
def FnExactValidRowsUptoSaid : Prop := fnExactValidRowsUptoRow.holds Try.pinned (OpenSpec.upto fnExactValidRowsSpec)

/-- 'laws.FnExactColumnWidths', WHERE WHAT IT READS IS OF BULK AT MOST 1048576: true; the input reads as it did. -/
def fnExactColumnWidthsUptoRow : OpenClaim := { program := "ytgfpbnafehpopaa", sum := "6d1734ef441421a1b0a2d62cbdb1862177ebbfb399135a5920c2a2c5eb9f5e65", func := "loop.example/textsinlines/laws.FnExactColumnWidths", spec := "fnExactColumnWidths", apart := false, narrowed := true }
def FnExactColumnWidthsUptoSaid : Prop := fnExactColumnWidthsUptoRow.holds Try.pinned (OpenSpec.upto fnExactColumnWidthsSpec)

/-- 'laws.FnExactRenderRows', WHERE WHAT IT READS IS OF BULK AT MOST 1048576: true; the input reads as it did. -/
def fnExactRenderRowsUptoRow : OpenClaim := { program := "ytgfpbnafehpopaa", sum := "6d1734ef441421a1b0a2d62cbdb1862177ebbfb399135a5920c2a2c5eb9f5e65", func := "loop.example/textsinlines/laws.FnExactRenderRows", spec := "fnExactRenderRows", inPlace := ["internal/abi.NoEscape", "internal/bytealg.MakeNoZero"], unfollowed := true, recurses := true, apart := false, narrowed := true }
def FnExactRenderRowsUptoSaid : Prop := fnExactRenderRowsUptoRow.holds Try.pinned (OpenSpec.upto fnExactRenderRowsSpec)

/-- 'laws.FnExactTurnRows', WHERE WHAT IT READS IS OF BULK AT MOST 1048576: true; the input reads as it did. -/
def fnExactTurnRowsUptoRow : OpenClaim := { program := "ytgfpbnafehpopaa", sum := "6d1734ef441421a1b0a2d62cbdb1862177ebbfb399135a5920c2a2c5eb9f5e65", func := "loop.example/textsinlines/laws.FnExactTurnRows", spec := "fnExactTurnRows", apart := false, narrowed := true }
def FnExactTurnRowsUptoSaid : Prop := fnExactTurnRowsUptoRow.holds Try.pinned (OpenSpec.upto fnExactTurnRowsSpec)

/-- 'laws.FnExactWrapCells', WHERE WHAT IT READS IS OF BULK AT MOST 1048576: true; the input reads as it did. -/
def fnExactWrapCellsUptoRow : OpenClaim := { program := "ytgfpbnafehpopaa", sum := "6d1734ef441421a1b0a2d62cbdb1862177ebbfb399135a5920c2a2c5eb9f5e65", func := "loop.example/textsinlines/laws.FnExactWrapCells", spec := "fnExactWrapCells", inPlace := ["internal/bytealg.IndexByteString", "internal/bytealg.IndexString", "internal/abi.NoEscape", "internal/bytealg.MakeNoZero"], named := ["internal/bytealg.MaxLen"], apart := false, narrowed := true }
def FnExactWrapCellsUptoSaid : Prop := fnExactWrapCellsUptoRow.holds Try.pinned (OpenSpec.upto fnExactWrapCellsSpec)

end Rows
end Go.Proofs.Ytgfpbnafehpopaa
