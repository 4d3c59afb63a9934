/-
  No cell of these rows narrows 'for every input' (looked for: loops, veiled, ifaces, maps, wideKeys, modest, calm, conditions, laid).
  DERIVED. THE GIVEN ROWS OF THIS SEAT. 10 by the template 'for every input the law returns true; each argument reads behind the call as it read before'; 0 by the template 'total and deterministic' (their statements: YtcghlhjlfppllaaTotals.lean).
  GIVEN WITH THE SEED: the statements are not yours to turn. If you find one false, say at which input.
  Laid BY PROGRAM, IN A SANDBOX (cutbox-rows.mjs): the forced cells as the released guide's own fill.sh prints them over the translation b669150fee932799… (all of the seat's roots in one cut). By AI agents, Wed Nov 11 2026. No macro, syntax, notation, axiom, sorry.
-/
import Derived.Test.YtcghlhjlfppllaaChecked
import GoSem.Claim
import GoSem.ClaimJoined
import GoSem.ClaimMapViews
import Derived.JoinedTies
import Derived.KernelRfl
namespace Go.Proofs.Ytcghlhjlfppllaa
/- THE CELL 'sum', in the pinned program and in every row, IS THE sha256 OF THE DUMP (.gsa) THAT YtcghlhjlfppllaaProg.lean LOADS. Nothing in Lean hashes anything: it is a label: what it is worth is what the hold of that sum in a sandbox is worth. -/
noncomputable def Try.pinned : Pinned := { name := "ytcghlhjlfppllaa", sum := "b669150fee932799904b6830dee2f4de97979fede6fb55e53d3584b553dbf235", checked := Try.checked }
namespace Rows
def none {H : Type} : Left H := { results := [], args := [] }

/-- 'laws.FnValidText': WHATEVER THE INPUT: true; the input reads as it did. -/
def fnValidTextSpec : ChangeSpec := { name := "fnValidText", fn := fun _ => fun
  | [d] => { results := [.lit (.bool true)], args := [d] }
  | _ => none }
def fnValidTextRow : OpenClaim := { program := "ytcghlhjlfppllaa", sum := "b669150fee932799904b6830dee2f4de97979fede6fb55e53d3584b553dbf235", func := "loop.example/textsinlines/laws.FnValidText", spec := "fnValidText", apart := false }
def FnValidTextSaid : Prop := fnValidTextRow.holds Try.pinned (OpenSpec.ofChange fnValidTextSpec)

/-- ITS FALSE NEIGHBOUR: 'it returns false'. Refute it at one input. -/
def fnValidTextWrong : ChangeSpec := { name := "fnValidText", fn := fun _ => fun
  | [d] => { results := [.lit (.bool false)], args := [d] }
  | _ => none }
def FnValidTextWrongFalsely : Prop := fnValidTextRow.holds Try.pinned (OpenSpec.ofChange fnValidTextWrong)

/-- 'laws.FnWordsOf': WHATEVER THE INPUT: true; the input reads as it did. -/
def fnWordsOfSpec : ChangeSpec := { name := "fnWordsOf", fn := fun _ => fun
  | [d] => { results := [.lit (.bool true)], args := [d] }
  | _ => none }
def fnWordsOfRow : OpenClaim := { program := "ytcghlhjlfppllaa", sum := "b669150fee932799904b6830dee2f4de97979fede6fb55e53d3584b553dbf235", func := "loop.example/textsinlines/laws.FnWordsOf", spec := "fnWordsOf", apart := false }
def FnWordsOfSaid : Prop := fnWordsOfRow.holds Try.pinned (OpenSpec.ofChange fnWordsOfSpec)

/-- ITS FALSE NEIGHBOUR: 'it returns false'. Refute it at one input. -/
def fnWordsOfWrong : ChangeSpec := { name := "fnWordsOf", fn := fun _ => fun
  | [d] => { results := [.lit (.bool false)], args := [d] }
  | _ => none }
def FnWordsOfWrongFalsely : Prop := fnWordsOfRow.holds Try.pinned (OpenSpec.ofChange fnWordsOfWrong)

/-- 'laws.FnFoldText': WHATEVER THE INPUT: true; the input reads as it did. -/
def fnFoldTextSpec : ChangeSpec := { name := "fnFoldText", fn := fun _ => fun
  | [d] => { results := [.lit (.bool true)], args := [d] }
  | _ => none }
def fnFoldTextRow : OpenClaim := { program := "ytcghlhjlfppllaa", sum := "b669150fee932799904b6830dee2f4de97979fede6fb55e53d3584b553dbf235", func := "loop.example/textsinlines/laws.FnFoldText", spec := "fnFoldText", inPlace := ["internal/abi.NoEscape", "internal/bytealg.MakeNoZero"], apart := false }
def FnFoldTextSaid : Prop := fnFoldTextRow.holds Try.pinned (OpenSpec.ofChange fnFoldTextSpec)

/-- ITS FALSE NEIGHBOUR: 'it returns false'. Refute it at one input. -/
def fnFoldTextWrong : ChangeSpec := { name := "fnFoldText", fn := fun _ => fun
  | [d] => { results := [.lit (.bool false)], args := [d] }
  | _ => none }
def FnFoldTextWrongFalsely : Prop := fnFoldTextRow.holds Try.pinned (OpenSpec.ofChange fnFoldTextWrong)

/-- 'laws.FnExpandTabs': WHATEVER THE INPUT: true; the input reads as it did. -/
def fnExpandTabsSpec : ChangeSpec := { name := "fnExpandTabs", fn := fun _ => fun
  | [d] => { results := [.lit (.bool true)], args := [d] }
  | _ => none }
def fnExpandTabsRow : OpenClaim := { program := "ytcghlhjlfppllaa", sum := "b669150fee932799904b6830dee2f4de97979fede6fb55e53d3584b553dbf235", func := "loop.example/textsinlines/laws.FnExpandTabs", spec := "fnExpandTabs", inPlace := ["internal/abi.NoEscape", "internal/bytealg.MakeNoZero"], apart := false }
def FnExpandTabsSaid : Prop := fnExpandTabsRow.holds Try.pinned (OpenSpec.ofChange fnExpandTabsSpec)

/-- ITS FALSE NEIGHBOUR: 'it returns false'. Refute it at one input. -/
def fnExpandTabsWrong : ChangeSpec := { name := "fnExpandTabs", fn := fun _ => fun
  | [d] => { results := [.lit (.bool false)], args := [d] }
  | _ => none }
def FnExpandTabsWrongFalsely : Prop := fnExpandTabsRow.holds Try.pinned (OpenSpec.ofChange fnExpandTabsWrong)

/-- 'laws.FnPadText': WHATEVER THE INPUT: true; the input reads as it did. -/
def fnPadTextSpec : ChangeSpec := { name := "fnPadText", fn := fun _ => fun
  | [d] => { results := [.lit (.bool true)], args := [d] }
  | _ => none }
def fnPadTextRow : OpenClaim := { program := "ytcghlhjlfppllaa", sum := "b669150fee932799904b6830dee2f4de97979fede6fb55e53d3584b553dbf235", func := "loop.example/textsinlines/laws.FnPadText", spec := "fnPadText", inPlace := ["internal/abi.NoEscape", "internal/bytealg.MakeNoZero"], apart := false }
def FnPadTextSaid : Prop := fnPadTextRow.holds Try.pinned (OpenSpec.ofChange fnPadTextSpec)

/-- ITS FALSE NEIGHBOUR: 'it returns false'. Refute it at one input. -/
def fnPadTextWrong : ChangeSpec := { name := "fnPadText", fn := fun _ => fun
  | [d] => { results := [.lit (.bool false)], args := [d] }
  | _ => none }
def FnPadTextWrongFalsely : Prop := fnPadTextRow.holds Try.pinned (OpenSpec.ofChange fnPadTextWrong)

/-- 'laws.FnExactValidText': WHATEVER THE INPUT: true; the input reads as it did. -/
def fnExactValidTextSpec : ChangeSpec := { name := "fnExactValidText", fn := fun _ => fun
  | [d] => { results := [.lit (.bool true)], args := [d] }
  | _ => none }
def fnExactValidTextRow : OpenClaim := { program := "ytcghlhjlfppllaa", sum := "b669150fee932799904b6830dee2f4de97979fede6fb55e53d3584b553dbf235", func := "loop.example/textsinlines/laws.FnExactValidText", spec := "fnExactValidText", apart := false }
def FnExactValidTextSaid : Prop := fnExactValidTextRow.holds Try.pinned (OpenSpec.ofChange fnExactValidTextSpec)

/-- ITS FALSE NEIGHBOUR: 'it returns false'. Refute it at one input. -/
def fnExactValidTextWrong : ChangeSpec := { name := "fnExactValidText", fn := fun _ => fun
  | [d] => { results := [.lit (.bool false)], args := [d] }
  | _ => none }
def FnExactValidTextWrongFalsely : Prop := fnExactValidTextRow.holds Try.pinned (OpenSpec.ofChange fnExactValidTextWrong)

/-- 'laws.FnExactWordsOf': WHATEVER THE INPUT: true; the input reads as it did. -/
def fnExactWordsOfSpec : ChangeSpec := { name := "fnExactWordsOf", fn := fun _ => fun
  | [d] => { results := [.lit (.bool true)], args := [d] }
  | _ => none }
def fnExactWordsOfRow : OpenClaim := { program := "ytcghlhjlfppllaa", sum := "b669150fee932799904b6830dee2f4de97979fede6fb55e53d3584b553dbf235", func := "loop.example/textsinlines/laws.FnExactWordsOf", spec := "fnExactWordsOf", apart := false }
def FnExactWordsOfSaid : Prop := fnExactWordsOfRow.holds Try.pinned (OpenSpec.ofChange fnExactWordsOfSpec)

/-- ITS FALSE NEIGHBOUR: 'it returns false'. Refute it at one input. -/
def fnExactWordsOfWrong : ChangeSpec := { name := "fnExactWordsOf", fn := fun _ => fun
  | [d] => { results := [.lit (.bool false)], args := [d] }
  | _ => none }
def FnExactWordsOfWrongFalsely : Prop := fnExactWordsOfRow.holds Try.pinned (OpenSpec.ofChange fnExactWordsOfWrong)

/-- 'laws.FnExactFoldText': WHATEVER THE INPUT: true; the input reads as it did. -/
def fnExactFoldTextSpec : ChangeSpec := { name := "fnExactFoldText", fn := fun _ => fun
  | [d] => { results := [.lit (.bool true)], args := [d] }
  | _ => none }
def fnExactFoldTextRow : OpenClaim := { program := "ytcghlhjlfppllaa", sum := "b669150fee932799904b6830dee2f4de97979fede6fb55e53d3584b553dbf235", func := "loop.example/textsinlines/laws.FnExactFoldText", spec := "fnExactFoldText", inPlace := ["internal/abi.NoEscape", "internal/bytealg.MakeNoZero"], apart := false }
def FnExactFoldTextSaid : Prop := fnExactFoldTextRow.holds Try.pinned (OpenSpec.ofChange fnExactFoldTextSpec)

/-- ITS FALSE NEIGHBOUR: 'it returns false'. Refute it at one input. -/
def fnExactFoldTextWrong : ChangeSpec := { name := "fnExactFoldText", fn := fun _ => fun
  | [d] => { results := [.lit (.bool false)], args := [d] }
  | _ => none }
def FnExactFoldTextWrongFalsely : Prop := fnExactFoldTextRow.holds Try.pinned (OpenSpec.ofChange fnExactFoldTextWrong)

/-- 'laws.FnExactExpandTabs': WHATEVER THE INPUT: true; the input reads as it did. -/
def fnExactExpandTabsSpec : ChangeSpec := { name := "fnExactExpandTabs", fn := fun _ => fun
  | [d1, d2] => { results := [.lit (.bool true)], args := [d1, d2] }
  | _ => none }
def fnExactExpandTabsRow : OpenClaim := { program := "ytcghlhjlfppllaa", sum := "b669150fee932799904b6830dee2f4de97979fede6fb55e53d3584b553dbf235", func := "loop.example/textsinlines/laws.FnExactExpandTabs", spec := "fnExactExpandTabs", inPlace := ["internal/abi.NoEscape", "internal/bytealg.MakeNoZero"], apart := false }
def FnExactExpandTabsSaid : Prop := fnExactExpandTabsRow.holds Try.pinned (OpenSpec.ofChange fnExactExpandTabsSpec)

/-- ITS FALSE NEIGHBOUR: 'it returns false'. Refute it at one input. -/
def fnExactExpandTabsWrong : ChangeSpec := { name := "fnExactExpandTabs", fn := fun _ => fun
  | [d1, d2] => { results := [.lit (.bool false)], args := [d1, d2] }
  | _ => none }
def FnExactExpandTabsWrongFalsely : Prop := fnExactExpandTabsRow.holds Try.pinned (OpenSpec.ofChange fnExactExpandTabsWrong)

/-- 'laws.FnExactPadText': WHATEVER THE INPUT: true; the input reads as it did. -/
def fnExactPadTextSpec : ChangeSpec := { name := "fnExactPadText", fn := fun _ => fun
  | [d1, d2, d3] => { results := [.lit (.bool true)], args := [d1, d2, d3] }
  | _ => none }
def fnExactPadTextRow : OpenClaim := { program := "ytcghlhjlfppllaa", sum := "b669150fee932799904b6830dee2f4de97979fede6fb55e53d3584b553dbf235", func := "loop.example/textsinlines/laws.FnExactPadText", spec := "fnExactPadText", inPlace := ["internal/abi.NoEscape", "internal/bytealg.MakeNoZero"], apart := false }
def FnExactPadTextSaid : Prop := fnExactPadTextRow.holds Try.pinned (OpenSpec.ofChange fnExactPadTextSpec)

/-- ITS FALSE NEIGHBOUR: 'it returns false'. Refute it at one input. -/
def fnExactPadTextWrong : ChangeSpec := { name := "fnExactPadText", fn := fun _ => fun
  | [d1, d2, d3] => { results := [.lit (.bool false)], args := [d1, d2, d3] }
  | _ => none }
def FnExactPadTextWrongFalsely : Prop := fnExactPadTextRow.holds Try.pinned (OpenSpec.ofChange fnExactPadTextWrong)

/- THE SECOND FORM. 'bulk': how many values and letters a reading holds, each counted each time it is reached (what is shared counts as often as it is met; a slice's spare places count too). A statement '..UptoSaid' is the law's where the arguments, and the package variables that the reading takes, are together of bulk at most 1048576: NARROWER than '..Said'. Prove '..Said' where nothing that the law and all that it calls make is longer than what came in: it says more and counts as full. Else prove '..UptoSaid'. A law counts once. -/
mutual
def uptoBulk {H : Type} : DataW H → Nat
  | .lit (.string bytes) => bytes.length + 1
  | .lit _ => 1
  | .nil => 1
  | .ptr d => uptoBulk d + 1
  | .slice elems spare => uptoBulkAll elems + uptoBulkAll spare + 1
  | .agg parts => uptoBulkAll parts + 1
  | .iface _ d => uptoBulk d + 1
  | .map entries => uptoBulkEntries entries + 1
  | .held _ => 1
def uptoBulkAll {H : Type} : List (DataW H) → Nat
  | [] => 0
  | d :: r => uptoBulk d + uptoBulkAll r
def uptoBulkEntries {H : Type} : List (Lit × DataW H) → Nat
  | [] => 0
  | x :: r => uptoBulkEntry x + uptoBulkEntries r
def uptoBulkEntry {H : Type} : Lit × DataW H → Nat
  | (.string bytes, d) => bytes.length + uptoBulk d + 1
  | (_, d) => uptoBulk d + 1
 end
def uptoSmall : (H : Type) → List (DataW H) → Bool := fun _ ds => decide (uptoBulkAll ds ≤ 1048576)
def OpenSpec.upto (s : _root_.Go.ChangeSpec) : _root_.Go.OpenSpec := { _root_.Go.OpenSpec.ofChange s with cond := some uptoSmall }

/-- 'laws.FnValidText', WHERE WHAT IT READS IS OF BULK AT MOST 1048576: true; the input reads as it did. -/
def fnValidTextUptoRow : OpenClaim := { program := "ytcghlhjlfppllaa", sum := "b669150fee932799904b6830dee2f4de97979fede6fb55e53d3584b553dbf235", func := "loop.example/textsinlines/laws.FnValidText", spec := "fnValidText", apart := false, narrowed := true }
def FnValidTextUptoSaid : Prop := fnValidTextUptoRow.holds Try.pinned (OpenSpec.upto fnValidTextSpec)

/-- 'laws.FnWordsOf', WHERE WHAT IT READS IS OF BULK AT MOST 1048576: true; the input reads as it did. -/
def fnWordsOfUptoRow : OpenClaim := { program := "ytcghlhjlfppllaa", sum := "b669150fee932799904b6830dee2f4de97979fede6fb55e53d3584b553dbf235", func := "loop.example/textsinlines/laws.FnWordsOf", spec := "fnWordsOf", apart := false, narrowed := true }
def FnWordsOfUptoSaid : Prop := fnWordsOfUptoRow.holds Try.pinned (OpenSpec.upto fnWordsOfSpec)

/-- 'laws.FnFoldText', WHERE WHAT IT READS IS OF BULK AT MOST 1048576: true; the input reads as it did. -/
def fnFoldTextUptoRow : OpenClaim := { program := "ytcghlhjlfppllaa", sum := "b669150fee932799904b6830dee2f4de97979fede6fb55e53d3584b553dbf235", func := "loop.example/textsinlines/laws.FnFoldText", spec := "fnFoldText", inPlace := ["internal/abi.NoEscape", "internal/bytealg.MakeNoZero"], apart := false, narrowed := true }
def FnFoldTextUptoSaid : Prop := fnFoldTextUptoRow.holds Try.pinned (OpenSpec.upto fnFoldTextSpec)

/-- 'laws.FnExpandTabs', WHERE WHAT IT READS IS OF BULK AT MOST 1048576: true; the input reads as it did. -/
def fnExpandTabsUptoRow : OpenClaim := { program := "ytcghlhjlfppllaa", sum := "b669150fee932799904b6830dee2f4de97979fede6fb55e53d3584b553dbf235", func := "loop.example/textsinlines/laws.FnExpandTabs", spec := "fnExpandTabs", inPlace := ["internal/abi.NoEscape", "internal/bytealg.MakeNoZero"], apart := false, narrowed := true }
def FnExpandTabsUptoSaid : Prop := fnExpandTabsUptoRow.holds Try.pinned (OpenSpec.upto fnExpandTabsSpec)

/-- 'laws.FnPadText', WHERE WHAT IT READS IS OF BULK AT MOST 1048576: true; the input reads as it did. -/
def fnPadTextUptoRow : OpenClaim := { program := "ytcghlhjlfppllaa", sum := "b669150fee932799904b6830dee2f4de97979fede6fb55e53d3584b553dbf235", func := "loop.example/textsinlines/laws.FnPadText", spec := "fnPadText", inPlace := ["internal/abi.NoEscape", "internal/bytealg.MakeNoZero"], apart := false, narrowed := true }
def FnPadTextUptoSaid : Prop := fnPadTextUptoRow.holds Try.pinned (OpenSpec.upto fnPadTextSpec)

/-- 'laws.FnExactValidText', WHERE WHAT IT READS IS OF BULK AT MOST 1048576: true; the input reads as it did. -/
def fnExactValidTextUptoRow : OpenClaim := { program := "ytcghlhjlfppllaa", sum := "b669150fee932799904b6830dee2f4de97979fede6fb55e53d3584b553dbf235", func := "loop.example/textsinlines/laws.FnExactValidText", spec := "fnExactValidText", apart := false, narrowed := true }
def FnExactValidTextUptoSaid : Prop := fnExactValidTextUptoRow.holds Try.pinned (OpenSpec.upto fnExactValidTextSpec)

/-- 'laws.FnExactWordsOf', WHERE WHAT IT READS IS OF BULK AT MOST 1048576: true; the input reads as it did. -/
def fnExactWordsOfUptoRow : OpenClaim := { program := "ytcghlhjlfppllaa", sum := "b669150fee932799904b6830dee2f4de97979fede6fb55e53d3584b553dbf235", func := "loop.example/textsinlines/laws.FnExactWordsOf", spec := "fnExactWordsOf", apart := false, narrowed := true }
def FnExactWordsOfUptoSaid : Prop := fnExactWordsOfUptoRow.holds Try.pinned (OpenSpec.upto fnExactWordsOfSpec)

/-- 'laws.FnExactFoldText', WHERE WHAT IT READS IS OF BULK AT MOST 1048576: true; the input reads as it did. -/
def fnExactFoldTextUptoRow : OpenClaim := { program := "ytcghlhjlfppllaa", sum := "b669150fee932799904b6830dee2f4de97979fede6fb55e53d3584b553dbf235", func := "loop.example/textsinlines/laws.FnExactFoldText", spec := "fnExactFoldText", inPlace := ["internal/abi.NoEscape", "internal/bytealg.MakeNoZero"], apart := false, narrowed := true }
def FnExactFoldTextUptoSaid : Prop := fnExactFoldTextUptoRow.holds Try.pinned (OpenSpec.upto fnExactFoldTextSpec)

/-- 'laws.FnExactExpandTabs', WHERE WHAT IT READS IS OF BULK AT MOST 1048576: true; the input reads as it did. -/
def fnExactExpandTabsUptoRow : OpenClaim := { program := "ytcghlhjlfppllaa", sum := "b669150fee932799904b6830dee2f4de97979fede6fb55e53d3584b553dbf235", func := "loop.example/textsinlines/laws.FnExactExpandTabs", spec := "fnExactExpandTabs", inPlace := ["internal/abi.NoEscape", "internal/bytealg.MakeNoZero"], apart := false, narrowed := true }
def FnExactExpandTabsUptoSaid : Prop := fnExactExpandTabsUptoRow.holds Try.pinned (OpenSpec.upto fnExactExpandTabsSpec)

/-- 'laws.FnExactPadText', WHERE WHAT IT READS IS OF BULK AT MOST 1048576: true; the input reads as it did. -/
def fnExactPadTextUptoRow : OpenClaim := { program := "ytcghlhjlfppllaa", sum := "b669150fee932799904b6830dee2f4de97979fede6fb55e53d3584b553dbf235", func := "loop.example/textsinlines/laws.FnExactPadText", spec := "fnExactPadText", inPlace := ["internal/abi.NoEscape", "internal/bytealg.MakeNoZero"], apart := false, narrowed := true }
def FnExactPadTextUptoSaid : Prop := fnExactPadTextUptoRow.holds Try.pinned (OpenSpec.upto fnExactPadTextSpec)

end Rows
end Go.Proofs.Ytcghlhjlfppllaa
