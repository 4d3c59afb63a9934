/-
  No cell of these rows narrows 'for every input' (looked for: loops, veiled, ifaces, maps, wideKeys, modest, calm, conditions, laid).
  DERIVED. THE GIVEN ROWS OF THIS SEAT. 8 by the template 'for every input the law returns true; each argument reads behind the call as it read before'; 0 by the template 'total and deterministic' (their statements: YtoeejepamlnkkaaTotals.lean).
  GIVEN WITH THE SEED: the statements are not yours to turn. If you find one false, say at which input.
  Laid BY PROGRAM, IN A SANDBOX (cutbox-rows.mjs): the forced cells as the released guide's own fill.sh prints them over the translation b3ef99b18f146692… (all of the seat's roots in one cut). By AI agents, Wed Nov 11 2026. No macro, syntax, notation, axiom, sorry.
-/
import Derived.Test.YtoeejepamlnkkaaChecked
import GoSem.Claim
import GoSem.ClaimJoined
import GoSem.ClaimMapViews
import Derived.JoinedTies
import Derived.KernelRfl
namespace Go.Proofs.Ytoeejepamlnkkaa
/- THE CELL 'sum', in the pinned program and in every row, IS THE sha256 OF THE DUMP (.gsa) THAT YtoeejepamlnkkaaProg.lean LOADS. Nothing in Lean hashes anything: it is a label: what it is worth is what the hold of that sum in a sandbox is worth. -/
noncomputable def Try.pinned : Pinned := { name := "ytoeejepamlnkkaa", sum := "b3ef99b18f146692350e626084e78dd02cccf5eba767c5ea61eb952d093b6393", checked := Try.checked }
namespace Rows
def none {H : Type} : Left H := { results := [], args := [] }

/-- 'laws.FnFillWords': WHATEVER THE INPUT: true; the input reads as it did. -/
def fnFillWordsSpec : ChangeSpec := { name := "fnFillWords", fn := fun _ => fun
  | [d] => { results := [.lit (.bool true)], args := [d] }
  | _ => none }
def fnFillWordsRow : OpenClaim := { program := "ytoeejepamlnkkaa", sum := "b3ef99b18f146692350e626084e78dd02cccf5eba767c5ea61eb952d093b6393", func := "loop.example/textsinlines/laws.FnFillWords", spec := "fnFillWords", inPlace := ["internal/bytealg.IndexByteString", "internal/bytealg.IndexString", "internal/abi.NoEscape", "internal/bytealg.MakeNoZero"], unfollowed := true, recurses := true, named := ["internal/bytealg.MaxLen"], apart := false }
def FnFillWordsSaid : Prop := fnFillWordsRow.holds Try.pinned (OpenSpec.ofChange fnFillWordsSpec)

/-- ITS FALSE NEIGHBOUR: 'it returns false'. Refute it at one input. -/
def fnFillWordsWrong : ChangeSpec := { name := "fnFillWords", fn := fun _ => fun
  | [d] => { results := [.lit (.bool false)], args := [d] }
  | _ => none }
def FnFillWordsWrongFalsely : Prop := fnFillWordsRow.holds Try.pinned (OpenSpec.ofChange fnFillWordsWrong)

/-- 'laws.FnShortenText': WHATEVER THE INPUT: true; the input reads as it did. -/
def fnShortenTextSpec : ChangeSpec := { name := "fnShortenText", fn := fun _ => fun
  | [d] => { results := [.lit (.bool true)], args := [d] }
  | _ => none }
def fnShortenTextRow : OpenClaim := { program := "ytoeejepamlnkkaa", sum := "b3ef99b18f146692350e626084e78dd02cccf5eba767c5ea61eb952d093b6393", func := "loop.example/textsinlines/laws.FnShortenText", spec := "fnShortenText", inPlace := ["internal/abi.NoEscape", "internal/bytealg.MakeNoZero"], apart := false }
def FnShortenTextSaid : Prop := fnShortenTextRow.holds Try.pinned (OpenSpec.ofChange fnShortenTextSpec)

/-- ITS FALSE NEIGHBOUR: 'it returns false'. Refute it at one input. -/
def fnShortenTextWrong : ChangeSpec := { name := "fnShortenText", fn := fun _ => fun
  | [d] => { results := [.lit (.bool false)], args := [d] }
  | _ => none }
def FnShortenTextWrongFalsely : Prop := fnShortenTextRow.holds Try.pinned (OpenSpec.ofChange fnShortenTextWrong)

/-- 'laws.FnFlowLines': WHATEVER THE INPUT: true; the input reads as it did. -/
def fnFlowLinesSpec : ChangeSpec := { name := "fnFlowLines", fn := fun _ => fun
  | [d] => { results := [.lit (.bool true)], args := [d] }
  | _ => none }
def fnFlowLinesRow : OpenClaim := { program := "ytoeejepamlnkkaa", sum := "b3ef99b18f146692350e626084e78dd02cccf5eba767c5ea61eb952d093b6393", func := "loop.example/textsinlines/laws.FnFlowLines", spec := "fnFlowLines", inPlace := ["internal/bytealg.IndexByteString", "internal/bytealg.IndexString", "internal/abi.NoEscape", "internal/bytealg.MakeNoZero"], named := ["internal/bytealg.MaxLen"], apart := false }
def FnFlowLinesSaid : Prop := fnFlowLinesRow.holds Try.pinned (OpenSpec.ofChange fnFlowLinesSpec)

/-- ITS FALSE NEIGHBOUR: 'it returns false'. Refute it at one input. -/
def fnFlowLinesWrong : ChangeSpec := { name := "fnFlowLines", fn := fun _ => fun
  | [d] => { results := [.lit (.bool false)], args := [d] }
  | _ => none }
def FnFlowLinesWrongFalsely : Prop := fnFlowLinesRow.holds Try.pinned (OpenSpec.ofChange fnFlowLinesWrong)

/-- 'laws.FnUnflowLines': WHATEVER THE INPUT: true; the input reads as it did. -/
def fnUnflowLinesSpec : ChangeSpec := { name := "fnUnflowLines", fn := fun _ => fun
  | [d] => { results := [.lit (.bool true)], args := [d] }
  | _ => none }
def fnUnflowLinesRow : OpenClaim := { program := "ytoeejepamlnkkaa", sum := "b3ef99b18f146692350e626084e78dd02cccf5eba767c5ea61eb952d093b6393", func := "loop.example/textsinlines/laws.FnUnflowLines", spec := "fnUnflowLines", apart := false }
def FnUnflowLinesSaid : Prop := fnUnflowLinesRow.holds Try.pinned (OpenSpec.ofChange fnUnflowLinesSpec)

/-- ITS FALSE NEIGHBOUR: 'it returns false'. Refute it at one input. -/
def fnUnflowLinesWrong : ChangeSpec := { name := "fnUnflowLines", fn := fun _ => fun
  | [d] => { results := [.lit (.bool false)], args := [d] }
  | _ => none }
def FnUnflowLinesWrongFalsely : Prop := fnUnflowLinesRow.holds Try.pinned (OpenSpec.ofChange fnUnflowLinesWrong)

/-- 'laws.FnExactFillWords': WHATEVER THE INPUT: true; the input reads as it did. -/
def fnExactFillWordsSpec : ChangeSpec := { name := "fnExactFillWords", fn := fun _ => fun
  | [d1, d2, d3, d4] => { results := [.lit (.bool true)], args := [d1, d2, d3, d4] }
  | _ => none }
def fnExactFillWordsRow : OpenClaim := { program := "ytoeejepamlnkkaa", sum := "b3ef99b18f146692350e626084e78dd02cccf5eba767c5ea61eb952d093b6393", func := "loop.example/textsinlines/laws.FnExactFillWords", spec := "fnExactFillWords", inPlace := ["internal/bytealg.IndexByteString", "internal/bytealg.IndexString", "internal/abi.NoEscape", "internal/bytealg.MakeNoZero"], unfollowed := true, recurses := true, named := ["internal/bytealg.MaxLen"], apart := false }
def FnExactFillWordsSaid : Prop := fnExactFillWordsRow.holds Try.pinned (OpenSpec.ofChange fnExactFillWordsSpec)

/-- ITS FALSE NEIGHBOUR: 'it returns false'. Refute it at one input. -/
def fnExactFillWordsWrong : ChangeSpec := { name := "fnExactFillWords", fn := fun _ => fun
  | [d1, d2, d3, d4] => { results := [.lit (.bool false)], args := [d1, d2, d3, d4] }
  | _ => none }
def FnExactFillWordsWrongFalsely : Prop := fnExactFillWordsRow.holds Try.pinned (OpenSpec.ofChange fnExactFillWordsWrong)

/-- 'laws.FnExactShortenText': WHATEVER THE INPUT: true; the input reads as it did. -/
def fnExactShortenTextSpec : ChangeSpec := { name := "fnExactShortenText", fn := fun _ => fun
  | [d1, d2, d3] => { results := [.lit (.bool true)], args := [d1, d2, d3] }
  | _ => none }
def fnExactShortenTextRow : OpenClaim := { program := "ytoeejepamlnkkaa", sum := "b3ef99b18f146692350e626084e78dd02cccf5eba767c5ea61eb952d093b6393", func := "loop.example/textsinlines/laws.FnExactShortenText", spec := "fnExactShortenText", inPlace := ["internal/abi.NoEscape", "internal/bytealg.MakeNoZero"], apart := false }
def FnExactShortenTextSaid : Prop := fnExactShortenTextRow.holds Try.pinned (OpenSpec.ofChange fnExactShortenTextSpec)

/-- ITS FALSE NEIGHBOUR: 'it returns false'. Refute it at one input. -/
def fnExactShortenTextWrong : ChangeSpec := { name := "fnExactShortenText", fn := fun _ => fun
  | [d1, d2, d3] => { results := [.lit (.bool false)], args := [d1, d2, d3] }
  | _ => none }
def FnExactShortenTextWrongFalsely : Prop := fnExactShortenTextRow.holds Try.pinned (OpenSpec.ofChange fnExactShortenTextWrong)

/-- 'laws.FnExactFlowLines': WHATEVER THE INPUT: true; the input reads as it did. -/
def fnExactFlowLinesSpec : ChangeSpec := { name := "fnExactFlowLines", fn := fun _ => fun
  | [d1, d2] => { results := [.lit (.bool true)], args := [d1, d2] }
  | _ => none }
def fnExactFlowLinesRow : OpenClaim := { program := "ytoeejepamlnkkaa", sum := "b3ef99b18f146692350e626084e78dd02cccf5eba767c5ea61eb952d093b6393", func := "loop.example/textsinlines/laws.FnExactFlowLines", spec := "fnExactFlowLines", inPlace := ["internal/bytealg.IndexByteString", "internal/bytealg.IndexString", "internal/abi.NoEscape", "internal/bytealg.MakeNoZero"], named := ["internal/bytealg.MaxLen"], apart := false }
def FnExactFlowLinesSaid : Prop := fnExactFlowLinesRow.holds Try.pinned (OpenSpec.ofChange fnExactFlowLinesSpec)

/-- ITS FALSE NEIGHBOUR: 'it returns false'. Refute it at one input. -/
def fnExactFlowLinesWrong : ChangeSpec := { name := "fnExactFlowLines", fn := fun _ => fun
  | [d1, d2] => { results := [.lit (.bool false)], args := [d1, d2] }
  | _ => none }
def FnExactFlowLinesWrongFalsely : Prop := fnExactFlowLinesRow.holds Try.pinned (OpenSpec.ofChange fnExactFlowLinesWrong)

/-- 'laws.FnExactUnflowLines': WHATEVER THE INPUT: true; the input reads as it did. -/
def fnExactUnflowLinesSpec : ChangeSpec := { name := "fnExactUnflowLines", fn := fun _ => fun
  | [d] => { results := [.lit (.bool true)], args := [d] }
  | _ => none }
def fnExactUnflowLinesRow : OpenClaim := { program := "ytoeejepamlnkkaa", sum := "b3ef99b18f146692350e626084e78dd02cccf5eba767c5ea61eb952d093b6393", func := "loop.example/textsinlines/laws.FnExactUnflowLines", spec := "fnExactUnflowLines", apart := false }
def FnExactUnflowLinesSaid : Prop := fnExactUnflowLinesRow.holds Try.pinned (OpenSpec.ofChange fnExactUnflowLinesSpec)

/-- ITS FALSE NEIGHBOUR: 'it returns false'. Refute it at one input. -/
def fnExactUnflowLinesWrong : ChangeSpec := { name := "fnExactUnflowLines", fn := fun _ => fun
  | [d] => { results := [.lit (.bool false)], args := [d] }
  | _ => none }
def FnExactUnflowLinesWrongFalsely : Prop := fnExactUnflowLinesRow.holds Try.pinned (OpenSpec.ofChange fnExactUnflowLinesWrong)

/- THE SECOND FORM. 'bulk': how many values and letters a reading holds, each counted each time it is reached (what is shared counts as often as it is met; a slice's spare places count too). A statement '..UptoSaid' is the law's where the arguments, and the package variables that the reading takes, are together of bulk at most 1048576: NARROWER than '..Said'. Prove '..Said' where nothing that the law and all that it calls make is longer than what came in: it says more and counts as full. Else prove '..UptoSaid'. A law counts once. -/
mutual
def uptoBulk {H : Type} : DataW H → Nat
  | .lit (.string bytes) => bytes.length + 1
  | .lit _ => 1
  | .nil => 1
  | .ptr d => uptoBulk d + 1
  | .slice elems spare => uptoBulkAll elems + uptoBulkAll spare + 1
  | .agg parts => uptoBulkAll parts + 1
  | .iface _ d => uptoBulk d + 1
  | .map entries => uptoBulkEntries entries + 1
  | .held _ => 1
def uptoBulkAll {H : Type} : List (DataW H) → Nat
  | [] => 0
  | d :: r => uptoBulk d + uptoBulkAll r
def uptoBulkEntries {H : Type} : List (Lit × DataW H) → Nat
  | [] => 0
  | x :: r => uptoBulkEntry x + uptoBulkEntries r
def uptoBulkEntry {H : Type} : Lit × DataW H → Nat
  | (.string bytes, d) => bytes.length + uptoBulk d + 1
  | (_, d) => uptoBulk d + 1
 end
def uptoSmall : (H : Type) → List (DataW H) → Bool := fun _ ds => decide (uptoBulkAll ds ≤ 1048576)
def OpenSpec.upto (s : _root_.Go.ChangeSpec) : _root_.Go.OpenSpec := { _root_.Go.OpenSpec.ofChange s with cond := some uptoSmall }

/-- 'laws.FnFillWords', WHERE WHAT IT READS IS OF BULK AT MOST 1048576: true; the input reads as it did. -/
def fnFillWordsUptoRow : OpenClaim := { program := "ytoeejepamlnkkaa", sum := "b3ef99b18f146692350e626084e78dd02cccf5eba767c5ea61eb952d093b6393", func := "loop.example/textsinlines/laws.FnFillWords", spec := "fnFillWords", inPlace := ["internal/bytealg.IndexByteString", "internal/bytealg.IndexString", "internal/abi.NoEscape", "internal/bytealg.MakeNoZero"], unfollowed := true, recurses := true, named := ["internal/bytealg.MaxLen"], apart := false, narrowed := true }
def FnFillWordsUptoSaid : Prop := fnFillWordsUptoRow.holds Try.pinned (OpenSpec.upto fnFillWordsSpec)

/-- 'laws.FnShortenText', WHERE WHAT IT READS IS OF BULK AT MOST 1048576: true; the input reads as it did. -/
def fnShortenTextUptoRow : OpenClaim := { program := "ytoeejepamlnkkaa", sum := "b3ef99b18f146692350e626084e78dd02cccf5eba767c5ea61eb952d093b6393", func := "loop.example/textsinlines/laws.FnShortenText", spec := "fnShortenText", inPlace := ["internal/abi.NoEscape", "internal/bytealg.MakeNoZero"], apart := false, narrowed := true }
def FnShortenTextUptoSaid : Prop := fnShortenTextUptoRow.holds Try.pinned (OpenSpec.upto fnShortenTextSpec)

/-- 'laws.FnFlowLines', WHERE WHAT IT READS IS OF BULK AT MOST 1048576: true; the input reads as it did. -/
def fnFlowLinesUptoRow : OpenClaim := { program := "ytoeejepamlnkkaa", sum := "b3ef99b18f146692350e626084e78dd02cccf5eba767c5ea61eb952d093b6393", func := "loop.example/textsinlines/laws.FnFlowLines", spec := "fnFlowLines", inPlace := ["internal/bytealg.IndexByteString", "internal/bytealg.IndexString", "internal/abi.NoEscape", "internal/bytealg.MakeNoZero"], named := ["internal/bytealg.MaxLen"], apart := false, narrowed := true }
def FnFlowLinesUptoSaid : Prop := fnFlowLinesUptoRow.holds Try.pinned (OpenSpec.upto fnFlowLinesSpec)

/-- 'laws.FnUnflowLines', WHERE WHAT IT READS IS OF BULK AT MOST 1048576: true; the input reads as it did. -/
def fnUnflowLinesUptoRow : OpenClaim := { program := "ytoeejepamlnkkaa", sum := "b3ef99b18f146692350e626084e78dd02cccf5eba767c5ea61eb952d093b6393", func := "loop.example/textsinlines/laws.FnUnflowLines", spec := "fnUnflowLines", apart := false, narrowed := true }
def FnUnflowLinesUptoSaid : Prop := fnUnflowLinesUptoRow.holds Try.pinned (OpenSpec.upto fnUnflowLinesSpec)

/-- 'laws.FnExactFillWords', WHERE WHAT IT READS IS OF BULK AT MOST 1048576: true; the input reads as it did. -/
def fnExactFillWordsUptoRow : OpenClaim := { program := "ytoeejepamlnkkaa", sum := "b3ef99b18f146692350e626084e78dd02cccf5eba767c5ea61eb952d093b6393", func := "loop.example/textsinlines/laws.FnExactFillWords", spec := "fnExactFillWords", inPlace := ["internal/bytealg.IndexByteString", "internal/bytealg.IndexString", "internal/abi.NoEscape", "internal/bytealg.MakeNoZero"], unfollowed := true, recurses := true, named := ["internal/bytealg.MaxLen"], apart := false, narrowed := true }
def FnExactFillWordsUptoSaid : Prop := fnExactFillWordsUptoRow.holds Try.pinned (OpenSpec.upto fnExactFillWordsSpec)

/-- 'laws.FnExactShortenText', WHERE WHAT IT READS IS OF BULK AT MOST 1048576: true; the input reads as it did. -/
def fnExactShortenTextUptoRow : OpenClaim := { program := "ytoeejepamlnkkaa", sum := "b3ef99b18f146692350e626084e78dd02cccf5eba767c5ea61eb952d093b6393", func := "loop.example/textsinlines/laws.FnExactShortenText", spec := "fnExactShortenText", inPlace := ["internal/abi.NoEscape", "internal/bytealg.MakeNoZero"], apart := false, narrowed := true }
def FnExactShortenTextUptoSaid : Prop := fnExactShortenTextUptoRow.holds Try.pinned (OpenSpec.upto fnExactShortenTextSpec)

/-- 'laws.FnExactFlowLines', WHERE WHAT IT READS IS OF BULK AT MOST 1048576: true; the input reads as it did. -/
def fnExactFlowLinesUptoRow : OpenClaim := { program := "ytoeejepamlnkkaa", sum := "b3ef99b18f146692350e626084e78dd02cccf5eba767c5ea61eb952d093b6393", func := "loop.example/textsinlines/laws.FnExactFlowLines", spec := "fnExactFlowLines", inPlace := ["internal/bytealg.IndexByteString", "internal/bytealg.IndexString", "internal/abi.NoEscape", "internal/bytealg.MakeNoZero"], named := ["internal/bytealg.MaxLen"], apart := false, narrowed := true }
def FnExactFlowLinesUptoSaid : Prop := fnExactFlowLinesUptoRow.holds Try.pinned (OpenSpec.upto fnExactFlowLinesSpec)

/-- 'laws.FnExactUnflowLines', WHERE WHAT IT READS IS OF BULK AT MOST 1048576: true; the input reads as it did. -/
def fnExactUnflowLinesUptoRow : OpenClaim := { program := "ytoeejepamlnkkaa", sum := "b3ef99b18f146692350e626084e78dd02cccf5eba767c5ea61eb952d093b6393", func := "loop.example/textsinlines/laws.FnExactUnflowLines", spec := "fnExactUnflowLines", apart := false, narrowed := true }
def FnExactUnflowLinesUptoSaid : Prop := fnExactUnflowLinesUptoRow.holds Try.pinned (OpenSpec.upto fnExactUnflowLinesSpec)

end Rows
end Go.Proofs.Ytoeejepamlnkkaa
