/-
  No cell of these rows narrows 'for every input' (looked for: loops, veiled, ifaces, maps, wideKeys, modest, calm, conditions, laid).
  DERIVED. THE GIVEN ROWS OF THIS SEAT. 13 by the template 'for every input the law returns true; each argument reads behind the call as it read before'; 0 by the template 'total and deterministic' (their statements: YtfajllfedhifkaaTotals.lean).
  GIVEN WITH THE SEED: the statements are not yours to turn. If you find one false, say at which input.
  Laid BY PROGRAM, IN A SANDBOX (cutbox-rows.mjs): the forced cells as the released guide's own fill.sh prints them over the translation d7e7b6d9b7d3c260… (all of the seat's roots in one cut). By AI agents, Wed Nov 11 2026. No macro, syntax, notation, axiom, sorry.
-/
import Derived.Test.YtfajllfedhifkaaChecked
import GoSem.Claim
import GoSem.ClaimJoined
import GoSem.ClaimMapViews
import Derived.JoinedTies
import Derived.KernelRfl
namespace Go.Proofs.Ytfajllfedhifkaa
/- THE CELL 'sum', in the pinned program and in every row, IS THE sha256 OF THE DUMP (.gsa) THAT YtfajllfedhifkaaProg.lean LOADS. Nothing in Lean hashes anything: it is a label: what it is worth is what the hold of that sum in a sandbox is worth. -/
noncomputable def Try.pinned : Pinned := { name := "ytfajllfedhifkaa", sum := "d7e7b6d9b7d3c26063f288309800cbd452e0361d8990d9ac990000bd5b3b0755", checked := Try.checked }
namespace Rows
def none {H : Type} : Left H := { results := [], args := [] }

/-- 'laws.FnWrapWords': WHATEVER THE INPUT: true; the input reads as it did. -/
def fnWrapWordsSpec : ChangeSpec := { name := "fnWrapWords", fn := fun _ => fun
  | [d] => { results := [.lit (.bool true)], args := [d] }
  | _ => none }
def fnWrapWordsRow : OpenClaim := { program := "ytfajllfedhifkaa", sum := "d7e7b6d9b7d3c26063f288309800cbd452e0361d8990d9ac990000bd5b3b0755", func := "loop.example/textsinlines/laws.FnWrapWords", spec := "fnWrapWords", inPlace := ["internal/bytealg.IndexByteString", "internal/bytealg.IndexString", "internal/abi.NoEscape", "internal/bytealg.MakeNoZero"], unfollowed := true, recurses := true, named := ["internal/bytealg.MaxLen"], apart := false }
def FnWrapWordsSaid : Prop := fnWrapWordsRow.holds Try.pinned (OpenSpec.ofChange fnWrapWordsSpec)

/-- ITS FALSE NEIGHBOUR: 'it returns false'. Refute it at one input. -/
def fnWrapWordsWrong : ChangeSpec := { name := "fnWrapWords", fn := fun _ => fun
  | [d] => { results := [.lit (.bool false)], args := [d] }
  | _ => none }
def FnWrapWordsWrongFalsely : Prop := fnWrapWordsRow.holds Try.pinned (OpenSpec.ofChange fnWrapWordsWrong)

/-- 'laws.FnCostOf': WHATEVER THE INPUT: true; the input reads as it did. -/
def fnCostOfSpec : ChangeSpec := { name := "fnCostOf", fn := fun _ => fun
  | [d] => { results := [.lit (.bool true)], args := [d] }
  | _ => none }
def fnCostOfRow : OpenClaim := { program := "ytfajllfedhifkaa", sum := "d7e7b6d9b7d3c26063f288309800cbd452e0361d8990d9ac990000bd5b3b0755", func := "loop.example/textsinlines/laws.FnCostOf", spec := "fnCostOf", apart := false }
def FnCostOfSaid : Prop := fnCostOfRow.holds Try.pinned (OpenSpec.ofChange fnCostOfSpec)

/-- ITS FALSE NEIGHBOUR: 'it returns false'. Refute it at one input. -/
def fnCostOfWrong : ChangeSpec := { name := "fnCostOf", fn := fun _ => fun
  | [d] => { results := [.lit (.bool false)], args := [d] }
  | _ => none }
def FnCostOfWrongFalsely : Prop := fnCostOfRow.holds Try.pinned (OpenSpec.ofChange fnCostOfWrong)

/-- 'laws.FnEvenWrap': WHATEVER THE INPUT: true; the input reads as it did. -/
def fnEvenWrapSpec : ChangeSpec := { name := "fnEvenWrap", fn := fun _ => fun
  | [d] => { results := [.lit (.bool true)], args := [d] }
  | _ => none }
def fnEvenWrapRow : OpenClaim := { program := "ytfajllfedhifkaa", sum := "d7e7b6d9b7d3c26063f288309800cbd452e0361d8990d9ac990000bd5b3b0755", func := "loop.example/textsinlines/laws.FnEvenWrap", spec := "fnEvenWrap", inPlace := ["internal/bytealg.IndexByteString", "internal/bytealg.IndexString", "internal/abi.NoEscape", "internal/bytealg.MakeNoZero"], unfollowed := true, recurses := true, named := ["internal/bytealg.MaxLen"], apart := false }
def FnEvenWrapSaid : Prop := fnEvenWrapRow.holds Try.pinned (OpenSpec.ofChange fnEvenWrapSpec)

/-- ITS FALSE NEIGHBOUR: 'it returns false'. Refute it at one input. -/
def fnEvenWrapWrong : ChangeSpec := { name := "fnEvenWrap", fn := fun _ => fun
  | [d] => { results := [.lit (.bool false)], args := [d] }
  | _ => none }
def FnEvenWrapWrongFalsely : Prop := fnEvenWrapRow.holds Try.pinned (OpenSpec.ofChange fnEvenWrapWrong)

/-- 'laws.FnLeastWidth': WHATEVER THE INPUT: true; the input reads as it did. -/
def fnLeastWidthSpec : ChangeSpec := { name := "fnLeastWidth", fn := fun _ => fun
  | [d] => { results := [.lit (.bool true)], args := [d] }
  | _ => none }
def fnLeastWidthRow : OpenClaim := { program := "ytfajllfedhifkaa", sum := "d7e7b6d9b7d3c26063f288309800cbd452e0361d8990d9ac990000bd5b3b0755", func := "loop.example/textsinlines/laws.FnLeastWidth", spec := "fnLeastWidth", inPlace := ["internal/bytealg.IndexByteString", "internal/bytealg.IndexString", "internal/abi.NoEscape", "internal/bytealg.MakeNoZero"], named := ["internal/bytealg.MaxLen"], apart := false }
def FnLeastWidthSaid : Prop := fnLeastWidthRow.holds Try.pinned (OpenSpec.ofChange fnLeastWidthSpec)

/-- ITS FALSE NEIGHBOUR: 'it returns false'. Refute it at one input. -/
def fnLeastWidthWrong : ChangeSpec := { name := "fnLeastWidth", fn := fun _ => fun
  | [d] => { results := [.lit (.bool false)], args := [d] }
  | _ => none }
def FnLeastWidthWrongFalsely : Prop := fnLeastWidthRow.holds Try.pinned (OpenSpec.ofChange fnLeastWidthWrong)

/-- 'laws.FnWaysOf': WHATEVER THE INPUT: true; the input reads as it did. -/
def fnWaysOfSpec : ChangeSpec := { name := "fnWaysOf", fn := fun _ => fun
  | [d] => { results := [.lit (.bool true)], args := [d] }
  | _ => none }
def fnWaysOfRow : OpenClaim := { program := "ytfajllfedhifkaa", sum := "d7e7b6d9b7d3c26063f288309800cbd452e0361d8990d9ac990000bd5b3b0755", func := "loop.example/textsinlines/laws.FnWaysOf", spec := "fnWaysOf", inPlace := ["internal/bytealg.IndexByteString", "internal/bytealg.IndexString", "internal/abi.NoEscape", "internal/bytealg.MakeNoZero"], unfollowed := true, recurses := true, named := ["internal/bytealg.MaxLen"], apart := false }
def FnWaysOfSaid : Prop := fnWaysOfRow.holds Try.pinned (OpenSpec.ofChange fnWaysOfSpec)

/-- ITS FALSE NEIGHBOUR: 'it returns false'. Refute it at one input. -/
def fnWaysOfWrong : ChangeSpec := { name := "fnWaysOf", fn := fun _ => fun
  | [d] => { results := [.lit (.bool false)], args := [d] }
  | _ => none }
def FnWaysOfWrongFalsely : Prop := fnWaysOfRow.holds Try.pinned (OpenSpec.ofChange fnWaysOfWrong)

/-- 'laws.FnJustifyWords': WHATEVER THE INPUT: true; the input reads as it did. -/
def fnJustifyWordsSpec : ChangeSpec := { name := "fnJustifyWords", fn := fun _ => fun
  | [d] => { results := [.lit (.bool true)], args := [d] }
  | _ => none }
def fnJustifyWordsRow : OpenClaim := { program := "ytfajllfedhifkaa", sum := "d7e7b6d9b7d3c26063f288309800cbd452e0361d8990d9ac990000bd5b3b0755", func := "loop.example/textsinlines/laws.FnJustifyWords", spec := "fnJustifyWords", inPlace := ["internal/bytealg.IndexByteString", "internal/bytealg.IndexString", "internal/abi.NoEscape", "internal/bytealg.MakeNoZero"], named := ["internal/bytealg.MaxLen"], apart := false }
def FnJustifyWordsSaid : Prop := fnJustifyWordsRow.holds Try.pinned (OpenSpec.ofChange fnJustifyWordsSpec)

/-- ITS FALSE NEIGHBOUR: 'it returns false'. Refute it at one input. -/
def fnJustifyWordsWrong : ChangeSpec := { name := "fnJustifyWords", fn := fun _ => fun
  | [d] => { results := [.lit (.bool false)], args := [d] }
  | _ => none }
def FnJustifyWordsWrongFalsely : Prop := fnJustifyWordsRow.holds Try.pinned (OpenSpec.ofChange fnJustifyWordsWrong)

/-- 'laws.FnExactValidWords': WHATEVER THE INPUT: true; the input reads as it did. -/
def fnExactValidWordsSpec : ChangeSpec := { name := "fnExactValidWords", fn := fun _ => fun
  | [d] => { results := [.lit (.bool true)], args := [d] }
  | _ => none }
def fnExactValidWordsRow : OpenClaim := { program := "ytfajllfedhifkaa", sum := "d7e7b6d9b7d3c26063f288309800cbd452e0361d8990d9ac990000bd5b3b0755", func := "loop.example/textsinlines/laws.FnExactValidWords", spec := "fnExactValidWords", inPlace := ["internal/bytealg.IndexByteString", "internal/bytealg.IndexString"], named := ["internal/bytealg.MaxLen"], apart := false }
def FnExactValidWordsSaid : Prop := fnExactValidWordsRow.holds Try.pinned (OpenSpec.ofChange fnExactValidWordsSpec)

/-- ITS FALSE NEIGHBOUR: 'it returns false'. Refute it at one input. -/
def fnExactValidWordsWrong : ChangeSpec := { name := "fnExactValidWords", fn := fun _ => fun
  | [d] => { results := [.lit (.bool false)], args := [d] }
  | _ => none }
def FnExactValidWordsWrongFalsely : Prop := fnExactValidWordsRow.holds Try.pinned (OpenSpec.ofChange fnExactValidWordsWrong)

/-- 'laws.FnExactWrapWords': WHATEVER THE INPUT: true; the input reads as it did. -/
def fnExactWrapWordsSpec : ChangeSpec := { name := "fnExactWrapWords", fn := fun _ => fun
  | [d1, d2] => { results := [.lit (.bool true)], args := [d1, d2] }
  | _ => none }
def fnExactWrapWordsRow : OpenClaim := { program := "ytfajllfedhifkaa", sum := "d7e7b6d9b7d3c26063f288309800cbd452e0361d8990d9ac990000bd5b3b0755", func := "loop.example/textsinlines/laws.FnExactWrapWords", spec := "fnExactWrapWords", inPlace := ["internal/bytealg.IndexByteString", "internal/bytealg.IndexString", "internal/abi.NoEscape", "internal/bytealg.MakeNoZero"], named := ["internal/bytealg.MaxLen"], apart := false }
def FnExactWrapWordsSaid : Prop := fnExactWrapWordsRow.holds Try.pinned (OpenSpec.ofChange fnExactWrapWordsSpec)

/-- ITS FALSE NEIGHBOUR: 'it returns false'. Refute it at one input. -/
def fnExactWrapWordsWrong : ChangeSpec := { name := "fnExactWrapWords", fn := fun _ => fun
  | [d1, d2] => { results := [.lit (.bool false)], args := [d1, d2] }
  | _ => none }
def FnExactWrapWordsWrongFalsely : Prop := fnExactWrapWordsRow.holds Try.pinned (OpenSpec.ofChange fnExactWrapWordsWrong)

/-- 'laws.FnExactCostOf': WHATEVER THE INPUT: true; the input reads as it did. -/
def fnExactCostOfSpec : ChangeSpec := { name := "fnExactCostOf", fn := fun _ => fun
  | [d1, d2] => { results := [.lit (.bool true)], args := [d1, d2] }
  | _ => none }
def fnExactCostOfRow : OpenClaim := { program := "ytfajllfedhifkaa", sum := "d7e7b6d9b7d3c26063f288309800cbd452e0361d8990d9ac990000bd5b3b0755", func := "loop.example/textsinlines/laws.FnExactCostOf", spec := "fnExactCostOf", apart := false }
def FnExactCostOfSaid : Prop := fnExactCostOfRow.holds Try.pinned (OpenSpec.ofChange fnExactCostOfSpec)

/-- ITS FALSE NEIGHBOUR: 'it returns false'. Refute it at one input. -/
def fnExactCostOfWrong : ChangeSpec := { name := "fnExactCostOf", fn := fun _ => fun
  | [d1, d2] => { results := [.lit (.bool false)], args := [d1, d2] }
  | _ => none }
def FnExactCostOfWrongFalsely : Prop := fnExactCostOfRow.holds Try.pinned (OpenSpec.ofChange fnExactCostOfWrong)

/-- 'laws.FnExactEvenWrap': WHATEVER THE INPUT: true; the input reads as it did. -/
def fnExactEvenWrapSpec : ChangeSpec := { name := "fnExactEvenWrap", fn := fun _ => fun
  | [d1, d2] => { results := [.lit (.bool true)], args := [d1, d2] }
  | _ => none }
def fnExactEvenWrapRow : OpenClaim := { program := "ytfajllfedhifkaa", sum := "d7e7b6d9b7d3c26063f288309800cbd452e0361d8990d9ac990000bd5b3b0755", func := "loop.example/textsinlines/laws.FnExactEvenWrap", spec := "fnExactEvenWrap", inPlace := ["internal/bytealg.IndexByteString", "internal/bytealg.IndexString", "internal/abi.NoEscape", "internal/bytealg.MakeNoZero"], unfollowed := true, recurses := true, named := ["internal/bytealg.MaxLen"], apart := false }
def FnExactEvenWrapSaid : Prop := fnExactEvenWrapRow.holds Try.pinned (OpenSpec.ofChange fnExactEvenWrapSpec)

/-- ITS FALSE NEIGHBOUR: 'it returns false'. Refute it at one input. -/
def fnExactEvenWrapWrong : ChangeSpec := { name := "fnExactEvenWrap", fn := fun _ => fun
  | [d1, d2] => { results := [.lit (.bool false)], args := [d1, d2] }
  | _ => none }
def FnExactEvenWrapWrongFalsely : Prop := fnExactEvenWrapRow.holds Try.pinned (OpenSpec.ofChange fnExactEvenWrapWrong)

/-- 'laws.FnExactLeastWidth': WHATEVER THE INPUT: true; the input reads as it did. -/
def fnExactLeastWidthSpec : ChangeSpec := { name := "fnExactLeastWidth", fn := fun _ => fun
  | [d1, d2] => { results := [.lit (.bool true)], args := [d1, d2] }
  | _ => none }
def fnExactLeastWidthRow : OpenClaim := { program := "ytfajllfedhifkaa", sum := "d7e7b6d9b7d3c26063f288309800cbd452e0361d8990d9ac990000bd5b3b0755", func := "loop.example/textsinlines/laws.FnExactLeastWidth", spec := "fnExactLeastWidth", inPlace := ["internal/bytealg.IndexByteString", "internal/bytealg.IndexString", "internal/abi.NoEscape", "internal/bytealg.MakeNoZero"], named := ["internal/bytealg.MaxLen"], apart := false }
def FnExactLeastWidthSaid : Prop := fnExactLeastWidthRow.holds Try.pinned (OpenSpec.ofChange fnExactLeastWidthSpec)

/-- ITS FALSE NEIGHBOUR: 'it returns false'. Refute it at one input. -/
def fnExactLeastWidthWrong : ChangeSpec := { name := "fnExactLeastWidth", fn := fun _ => fun
  | [d1, d2] => { results := [.lit (.bool false)], args := [d1, d2] }
  | _ => none }
def FnExactLeastWidthWrongFalsely : Prop := fnExactLeastWidthRow.holds Try.pinned (OpenSpec.ofChange fnExactLeastWidthWrong)

/-- 'laws.FnExactWaysOf': WHATEVER THE INPUT: true; the input reads as it did. -/
def fnExactWaysOfSpec : ChangeSpec := { name := "fnExactWaysOf", fn := fun _ => fun
  | [d1, d2] => { results := [.lit (.bool true)], args := [d1, d2] }
  | _ => none }
def fnExactWaysOfRow : OpenClaim := { program := "ytfajllfedhifkaa", sum := "d7e7b6d9b7d3c26063f288309800cbd452e0361d8990d9ac990000bd5b3b0755", func := "loop.example/textsinlines/laws.FnExactWaysOf", spec := "fnExactWaysOf", inPlace := ["internal/bytealg.IndexByteString", "internal/bytealg.IndexString"], unfollowed := true, recurses := true, named := ["internal/bytealg.MaxLen"], apart := false }
def FnExactWaysOfSaid : Prop := fnExactWaysOfRow.holds Try.pinned (OpenSpec.ofChange fnExactWaysOfSpec)

/-- ITS FALSE NEIGHBOUR: 'it returns false'. Refute it at one input. -/
def fnExactWaysOfWrong : ChangeSpec := { name := "fnExactWaysOf", fn := fun _ => fun
  | [d1, d2] => { results := [.lit (.bool false)], args := [d1, d2] }
  | _ => none }
def FnExactWaysOfWrongFalsely : Prop := fnExactWaysOfRow.holds Try.pinned (OpenSpec.ofChange fnExactWaysOfWrong)

/-- 'laws.FnExactJustifyWords': WHATEVER THE INPUT: true; the input reads as it did. -/
def fnExactJustifyWordsSpec : ChangeSpec := { name := "fnExactJustifyWords", fn := fun _ => fun
  | [d1, d2] => { results := [.lit (.bool true)], args := [d1, d2] }
  | _ => none }
def fnExactJustifyWordsRow : OpenClaim := { program := "ytfajllfedhifkaa", sum := "d7e7b6d9b7d3c26063f288309800cbd452e0361d8990d9ac990000bd5b3b0755", func := "loop.example/textsinlines/laws.FnExactJustifyWords", spec := "fnExactJustifyWords", inPlace := ["internal/bytealg.IndexByteString", "internal/bytealg.IndexString", "internal/abi.NoEscape", "internal/bytealg.MakeNoZero"], named := ["internal/bytealg.MaxLen"], apart := false }
def FnExactJustifyWordsSaid : Prop := fnExactJustifyWordsRow.holds Try.pinned (OpenSpec.ofChange fnExactJustifyWordsSpec)

/-- ITS FALSE NEIGHBOUR: 'it returns false'. Refute it at one input. -/
def fnExactJustifyWordsWrong : ChangeSpec := { name := "fnExactJustifyWords", fn := fun _ => fun
  | [d1, d2] => { results := [.lit (.bool false)], args := [d1, d2] }
  | _ => none }
def FnExactJustifyWordsWrongFalsely : Prop := fnExactJustifyWordsRow.holds Try.pinned (OpenSpec.ofChange fnExactJustifyWordsWrong)

/- THE SECOND FORM. 'bulk': how many values and letters a reading holds, each counted each time it is reached (what is shared counts as often as it is met; a slice's spare places count too). A statement '..UptoSaid' is the law's where the arguments, and the package variables that the reading takes, are together of bulk at most 1048576: NARROWER than '..Said'. Prove '..Said' where nothing that the law and all that it calls make is longer than what came in: it says more and counts as full. Else prove '..UptoSaid'. A law counts once. -/
mutual
def uptoBulk {H : Type} : DataW H → Nat
  | .lit (.string bytes) => bytes.length + 1
  | .lit _ => 1
  | .nil => 1
  | .ptr d => uptoBulk d + 1
  | .slice elems spare => uptoBulkAll elems + uptoBulkAll spare + 1
  | .agg parts => uptoBulkAll parts + 1
  | .iface _ d => uptoBulk d + 1
  | .map entries => uptoBulkEntries entries + 1
  | .held _ => 1
def uptoBulkAll {H : Type} : List (DataW H) → Nat
  | [] => 0
  | d :: r => uptoBulk d + uptoBulkAll r
def uptoBulkEntries {H : Type} : List (Lit × DataW H) → Nat
  | [] => 0
  | x :: r => uptoBulkEntry x + uptoBulkEntries r
def uptoBulkEntry {H : Type} : Lit × DataW H → Nat
  | (.string bytes, d) => bytes.length + uptoBulk d + 1
  | (_, d) => uptoBulk d + 1
 end
def uptoSmall : (H : Type) → List (DataW H) → Bool := fun _ ds => decide (uptoBulkAll ds ≤ 1048576)
def OpenSpec.upto (s : _root_.Go.ChangeSpec) : _root_.Go.OpenSpec := { _root_.Go.OpenSpec.ofChange s with cond := some uptoSmall }

/-- 'laws.FnWrapWords', WHERE WHAT IT READS IS OF BULK AT MOST 1048576: true; the input reads as it did. -/
def fnWrapWordsUptoRow : OpenClaim := { program := "ytfajllfedhifkaa", sum := "d7e7b6d9b7d3c26063f288309800cbd452e0361d8990d9ac990000bd5b3b0755", func := "loop.example/textsinlines/laws.FnWrapWords", spec := "fnWrapWords", inPlace := ["internal/bytealg.IndexByteString", "internal/bytealg.IndexString", "internal/abi.NoEscape", "internal/bytealg.MakeNoZero"], unfollowed := true, recurses := true, named := ["internal/bytealg.MaxLen"], apart := false, narrowed := true }
def FnWrapWordsUptoSaid : Prop := fnWrapWordsUptoRow.holds Try.pinned (OpenSpec.upto fnWrapWordsSpec)

/-- 'laws.FnCostOf', WHERE WHAT IT READS IS OF BULK AT MOST 1048576: true; the input reads as it did. -/
def fnCostOfUptoRow : OpenClaim := { program := "ytfajllfedhifkaa", sum := "d7e7b6d9b7d3c26063f288309800cbd452e0361d8990d9ac990000bd5b3b0755", func := "loop.example/textsinlines/laws.FnCostOf", spec := "fnCostOf", apart := false, narrowed := true }
def FnCostOfUptoSaid : Prop := fnCostOfUptoRow.holds Try.pinned (OpenSpec.upto fnCostOfSpec)

/-- 'laws.FnEvenWrap', WHERE WHAT IT READS IS OF BULK AT MOST 1048576: true; the input reads as it did. -/
def fnEvenWrapUptoRow : OpenClaim := { program := "ytfajllfedhifkaa", sum := "d7e7b6d9b7d3c26063f288309800cbd452e0361d8990d9ac990000bd5b3b0755", func := "loop.example/textsinlines/laws.FnEvenWrap", spec := "fnEvenWrap", inPlace := ["internal/bytealg.IndexByteString", "internal/bytealg.IndexString", "internal/abi.NoEscape", "internal/bytealg.MakeNoZero"], unfollowed := true, recurses := true, named := ["internal/bytealg.MaxLen"], apart := false, narrowed := true }
def FnEvenWrapUptoSaid : Prop := fnEvenWrapUptoRow.holds Try.pinned (OpenSpec.upto fnEvenWrapSpec)

/-- 'laws.FnLeastWidth', WHERE WHAT IT READS IS OF BULK AT MOST 1048576: true; the input reads as it did. -/
def fnLeastWidthUptoRow : OpenClaim := { program := "ytfajllfedhifkaa", sum := "d7e7b6d9b7d3c26063f288309800cbd452e0361d8990d9ac990000bd5b3b0755", func := "loop.example/textsinlines/laws.FnLeastWidth", spec := "fnLeastWidth", inPlace := ["internal/bytealg.IndexByteString", "internal/bytealg.IndexString", "internal/abi.NoEscape", "internal/bytealg.MakeNoZero"], named := ["internal/bytealg.MaxLen"], apart := false, narrowed := true }
def FnLeastWidthUptoSaid : Prop := fnLeastWidthUptoRow.holds Try.pinned (OpenSpec.upto fnLeastWidthSpec)

/-- 'laws.FnWaysOf', WHERE WHAT IT READS IS OF BULK AT MOST 1048576: true; the input reads as it did. -/
def fnWaysOfUptoRow : OpenClaim := { program := "ytfajllfedhifkaa", sum := "d7e7b6d9b7d3c26063f288309800cbd452e0361d8990d9ac990000bd5b3b0755", func := "loop.example/textsinlines/laws.FnWaysOf", spec := "fnWaysOf", inPlace := ["internal/bytealg.IndexByteString", "internal/bytealg.IndexString", "internal/abi.NoEscape", "internal/bytealg.MakeNoZero"], unfollowed := true, recurses := true, named := ["internal/bytealg.MaxLen"], apart := false, narrowed := true }
def FnWaysOfUptoSaid : Prop := fnWaysOfUptoRow.holds Try.pinned (OpenSpec.upto fnWaysOfSpec)

/-- 'laws.FnJustifyWords', WHERE WHAT IT READS IS OF BULK AT MOST 1048576: true; the input reads as it did. -/
def fnJustifyWordsUptoRow : OpenClaim := { program := "ytfajllfedhifkaa", sum := "d7e7b6d9b7d3c26063f288309800cbd452e0361d8990d9ac990000bd5b3b0755", func := "loop.example/textsinlines/laws.FnJustifyWords", spec := "fnJustifyWords", inPlace := ["internal/bytealg.IndexByteString", "internal/bytealg.IndexString", "internal/abi.NoEscape", "internal/bytealg.MakeNoZero"], named := ["internal/bytealg.MaxLen"], apart := false, narrowed := true }
def FnJustifyWordsUptoSaid : Prop := fnJustifyWordsUptoRow.holds Try.pinned (OpenSpec.upto fnJustifyWordsSpec)

/-- 'laws.FnExactValidWords', WHERE WHAT IT READS IS OF BULK AT MOST 1048576: true; the input reads as it did. -/
def fnExactValidWordsUptoRow : OpenClaim := { program := "ytfajllfedhifkaa", sum := "d7e7b6d9b7d3c26063f288309800cbd452e0361d8990d9ac990000bd5b3b0755", func := "loop.example/textsinlines/laws.FnExactValidWords", spec := "fnExactValidWords", inPlace := ["internal/bytealg.IndexByteString", "internal/bytealg.IndexString"], named := ["internal/bytealg.MaxLen"], apart := false, narrowed := true }
def FnExactValidWordsUptoSaid : Prop := fnExactValidWordsUptoRow.holds Try.pinned (OpenSpec.upto fnExactValidWordsSpec)

/-- 'laws.FnExactWrapWords', WHERE WHAT IT READS IS OF BULK AT MOST 1048576: true; the input reads as it did. -/
def fnExactWrapWordsUptoRow : OpenClaim := { program := "ytfajllfedhifkaa", sum := "d7e7b6d9b7d3c26063f288309800cbd452e0361d8990d9ac990000bd5b3b0755", func := "loop.example/textsinlines/laws.FnExactWrapWords", spec := "fnExactWrapWords", inPlace := ["internal/bytealg.IndexByteString", "internal/bytealg.IndexString", "internal/abi.NoEscape", "internal/bytealg.MakeNoZero"], named := ["internal/bytealg.MaxLen"], apart := false, narrowed := true }
def FnExactWrapWordsUptoSaid : Prop := fnExactWrapWordsUptoRow.holds Try.pinned (OpenSpec.upto fnExactWrapWordsSpec)

/-- 'laws.FnExactCostOf', WHERE WHAT IT READS IS OF BULK AT MOST 1048576: true; the input reads as it did. -/
def fnExactCostOfUptoRow : OpenClaim := { program := "ytfajllfedhifkaa", sum := "d7e7b6d9b7d3c26063f288309800cbd452e0361d8990d9ac990000bd5b3b0755", func := "loop.example/textsinlines/laws.FnExactCostOf", spec := "fnExactCostOf", apart := false, narrowed := true }
def FnExactCostOfUptoSaid : Prop := fnExactCostOfUptoRow.holds Try.pinned (OpenSpec.upto fnExactCostOfSpec)

/-- 'laws.FnExactEvenWrap', WHERE WHAT IT READS IS OF BULK AT MOST 1048576: true; the input reads as it did. -/
def fnExactEvenWrapUptoRow : OpenClaim := { program := "ytfajllfedhifkaa", sum := "d7e7b6d9b7d3c26063f288309800cbd452e0361d8990d9ac990000bd5b3b0755", func := "loop.example/textsinlines/laws.FnExactEvenWrap", spec := "fnExactEvenWrap", inPlace := ["internal/bytealg.IndexByteString", "internal/bytealg.IndexString", "internal/abi.NoEscape", "internal/bytealg.MakeNoZero"], unfollowed := true, recurses := true, named := ["internal/bytealg.MaxLen"], apart := false, narrowed := true }
def FnExactEvenWrapUptoSaid : Prop := fnExactEvenWrapUptoRow.holds Try.pinned (OpenSpec.upto fnExactEvenWrapSpec)

/-- 'laws.FnExactLeastWidth', WHERE WHAT IT READS IS OF BULK AT MOST 1048576: true; the input reads as it did. -/
def fnExactLeastWidthUptoRow : OpenClaim := { program := "ytfajllfedhifkaa", sum := "d7e7b6d9b7d3c26063f288309800cbd452e0361d8990d9ac990000bd5b3b0755", func := "loop.example/textsinlines/laws.FnExactLeastWidth", spec := "fnExactLeastWidth", inPlace := ["internal/bytealg.IndexByteString", "internal/bytealg.IndexString", "internal/abi.NoEscape", "internal/bytealg.MakeNoZero"], named := ["internal/bytealg.MaxLen"], apart := false, narrowed := true }
def FnExactLeastWidthUptoSaid : Prop := fnExactLeastWidthUptoRow.holds Try.pinned (OpenSpec.upto fnExactLeastWidthSpec)

/-- 'laws.FnExactWaysOf', WHERE WHAT IT READS IS OF BULK AT MOST 1048576: true; the input reads as it did. -/
def fnExactWaysOfUptoRow : OpenClaim := { program := "ytfajllfedhifkaa", sum := "d7e7b6d9b7d3c26063f288309800cbd452e0361d8990d9ac990000bd5b3b0755", func := "loop.example/textsinlines/laws.FnExactWaysOf", spec := "fnExactWaysOf", inPlace := ["internal/bytealg.IndexByteString", "internal/bytealg.IndexString"], unfollowed := true, recurses := true, named := ["internal/bytealg.MaxLen"], apart := false, narrowed := true }
def FnExactWaysOfUptoSaid : Prop := fnExactWaysOfUptoRow.holds Try.pinned (OpenSpec.upto fnExactWaysOfSpec)

/-- 'laws.FnExactJustifyWords', WHERE WHAT IT READS IS OF BULK AT MOST 1048576: true; the input reads as it did. -/
def fnExactJustifyWordsUptoRow : OpenClaim := { program := "ytfajllfedhifkaa", sum := "d7e7b6d9b7d3c26063f288309800cbd452e0361d8990d9ac990000bd5b3b0755", func := "loop.example/textsinlines/laws.FnExactJustifyWords", spec := "fnExactJustifyWords", inPlace := ["internal/bytealg.IndexByteString", "internal/bytealg.IndexString", "internal/abi.NoEscape", "internal/bytealg.MakeNoZero"], named := ["internal/bytealg.MaxLen"], apart := false, narrowed := true }
def FnExactJustifyWordsUptoSaid : Prop := fnExactJustifyWordsUptoRow.holds Try.pinned (OpenSpec.upto fnExactJustifyWordsSpec)

end Rows
end Go.Proofs.Ytfajllfedhifkaa
