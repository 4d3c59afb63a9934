/-
  No cell of these rows narrows 'for every input' (looked for: loops, veiled, ifaces, maps, wideKeys, modest, calm, conditions, laid).
  DERIVED. THE GIVEN ROWS OF THIS SEAT. 13 by the template 'for every input the law returns true; each argument reads behind the call as it read before'; 0 by the template 'total and deterministic' (their statements: YtckfpneooknifaaTotals.lean).
  GIVEN WITH THE SEED: the statements are not yours to turn. If you find one false, say at which input.
  Laid BY PROGRAM, IN A SANDBOX (cutbox-rows.mjs): the forced cells as the released guide's own fill.sh prints them over the translation 824ade8750246ff4… (all of the seat's roots in one cut). By AI agents, Wed Nov 11 2026. No macro, syntax, notation, axiom, sorry.
-/
import Derived.Test.YtckfpneooknifaaChecked
import GoSem.Claim
import GoSem.ClaimJoined
import GoSem.ClaimMapViews
import Derived.JoinedTies
import Derived.KernelRfl
namespace Go.Proofs.Ytckfpneooknifaa
/- THE CELL 'sum', in the pinned program and in every row, IS THE sha256 OF THE DUMP (.gsa) THAT YtckfpneooknifaaProg.lean LOADS. Nothing in Lean hashes anything: it is a label: what it is worth is what the hold of that sum in a sandbox is worth. -/
noncomputable def Try.pinned : Pinned := { name := "ytckfpneooknifaa", sum := "824ade8750246ff4597080f16d37e46b77af1a3898ea7c2b4e2b84a1ab9c7c3f", checked := Try.checked }
namespace Rows
def none {H : Type} : Left H := { results := [], args := [] }

/-- 'laws.FnValidWords': WHATEVER THE INPUT: true; the input reads as it did. -/
def fnValidWordsSpec : ChangeSpec := { name := "fnValidWords", fn := fun _ => fun
  | [d] => { results := [.lit (.bool true)], args := [d] }
  | _ => none }
def fnValidWordsRow : OpenClaim := { program := "ytckfpneooknifaa", sum := "824ade8750246ff4597080f16d37e46b77af1a3898ea7c2b4e2b84a1ab9c7c3f", func := "loop.example/textsinlines/laws.FnValidWords", spec := "fnValidWords", inPlace := ["internal/bytealg.IndexByteString", "internal/bytealg.IndexString"], named := ["internal/bytealg.MaxLen"], apart := false }
def FnValidWordsSaid : Prop := fnValidWordsRow.holds Try.pinned (OpenSpec.ofChange fnValidWordsSpec)

/-- ITS FALSE NEIGHBOUR: 'it returns false'. Refute it at one input. -/
def fnValidWordsWrong : ChangeSpec := { name := "fnValidWords", fn := fun _ => fun
  | [d] => { results := [.lit (.bool false)], args := [d] }
  | _ => none }
def FnValidWordsWrongFalsely : Prop := fnValidWordsRow.holds Try.pinned (OpenSpec.ofChange fnValidWordsWrong)

/-- 'laws.FnCommonOf': WHATEVER THE INPUT: true; the input reads as it did. -/
def fnCommonOfSpec : ChangeSpec := { name := "fnCommonOf", fn := fun _ => fun
  | [d] => { results := [.lit (.bool true)], args := [d] }
  | _ => none }
def fnCommonOfRow : OpenClaim := { program := "ytckfpneooknifaa", sum := "824ade8750246ff4597080f16d37e46b77af1a3898ea7c2b4e2b84a1ab9c7c3f", func := "loop.example/textsinlines/laws.FnCommonOf", spec := "fnCommonOf", unfollowed := true, recurses := true, apart := false }
def FnCommonOfSaid : Prop := fnCommonOfRow.holds Try.pinned (OpenSpec.ofChange fnCommonOfSpec)

/-- ITS FALSE NEIGHBOUR: 'it returns false'. Refute it at one input. -/
def fnCommonOfWrong : ChangeSpec := { name := "fnCommonOf", fn := fun _ => fun
  | [d] => { results := [.lit (.bool false)], args := [d] }
  | _ => none }
def FnCommonOfWrongFalsely : Prop := fnCommonOfRow.holds Try.pinned (OpenSpec.ofChange fnCommonOfWrong)

/-- 'laws.FnApplyChanges': WHATEVER THE INPUT: true; the input reads as it did. -/
def fnApplyChangesSpec : ChangeSpec := { name := "fnApplyChanges", fn := fun _ => fun
  | [d] => { results := [.lit (.bool true)], args := [d] }
  | _ => none }
def fnApplyChangesRow : OpenClaim := { program := "ytckfpneooknifaa", sum := "824ade8750246ff4597080f16d37e46b77af1a3898ea7c2b4e2b84a1ab9c7c3f", func := "loop.example/textsinlines/laws.FnApplyChanges", spec := "fnApplyChanges", apart := false }
def FnApplyChangesSaid : Prop := fnApplyChangesRow.holds Try.pinned (OpenSpec.ofChange fnApplyChangesSpec)

/-- ITS FALSE NEIGHBOUR: 'it returns false'. Refute it at one input. -/
def fnApplyChangesWrong : ChangeSpec := { name := "fnApplyChanges", fn := fun _ => fun
  | [d] => { results := [.lit (.bool false)], args := [d] }
  | _ => none }
def FnApplyChangesWrongFalsely : Prop := fnApplyChangesRow.holds Try.pinned (OpenSpec.ofChange fnApplyChangesWrong)

/-- 'laws.FnTurnChanges': WHATEVER THE INPUT: true; the input reads as it did. -/
def fnTurnChangesSpec : ChangeSpec := { name := "fnTurnChanges", fn := fun _ => fun
  | [d] => { results := [.lit (.bool true)], args := [d] }
  | _ => none }
def fnTurnChangesRow : OpenClaim := { program := "ytckfpneooknifaa", sum := "824ade8750246ff4597080f16d37e46b77af1a3898ea7c2b4e2b84a1ab9c7c3f", func := "loop.example/textsinlines/laws.FnTurnChanges", spec := "fnTurnChanges", apart := false }
def FnTurnChangesSaid : Prop := fnTurnChangesRow.holds Try.pinned (OpenSpec.ofChange fnTurnChangesSpec)

/-- ITS FALSE NEIGHBOUR: 'it returns false'. Refute it at one input. -/
def fnTurnChangesWrong : ChangeSpec := { name := "fnTurnChanges", fn := fun _ => fun
  | [d] => { results := [.lit (.bool false)], args := [d] }
  | _ => none }
def FnTurnChangesWrongFalsely : Prop := fnTurnChangesRow.holds Try.pinned (OpenSpec.ofChange fnTurnChangesWrong)

/-- 'laws.FnLevelsOf': WHATEVER THE INPUT: true; the input reads as it did. -/
def fnLevelsOfSpec : ChangeSpec := { name := "fnLevelsOf", fn := fun _ => fun
  | [d] => { results := [.lit (.bool true)], args := [d] }
  | _ => none }
def fnLevelsOfRow : OpenClaim := { program := "ytckfpneooknifaa", sum := "824ade8750246ff4597080f16d37e46b77af1a3898ea7c2b4e2b84a1ab9c7c3f", func := "loop.example/textsinlines/laws.FnLevelsOf", spec := "fnLevelsOf", unfollowed := true, recurses := true, apart := false }
def FnLevelsOfSaid : Prop := fnLevelsOfRow.holds Try.pinned (OpenSpec.ofChange fnLevelsOfSpec)

/-- ITS FALSE NEIGHBOUR: 'it returns false'. Refute it at one input. -/
def fnLevelsOfWrong : ChangeSpec := { name := "fnLevelsOf", fn := fun _ => fun
  | [d] => { results := [.lit (.bool false)], args := [d] }
  | _ => none }
def FnLevelsOfWrongFalsely : Prop := fnLevelsOfRow.holds Try.pinned (OpenSpec.ofChange fnLevelsOfWrong)

/-- 'laws.FnHyphensOf': WHATEVER THE INPUT: true; the input reads as it did. -/
def fnHyphensOfSpec : ChangeSpec := { name := "fnHyphensOf", fn := fun _ => fun
  | [d] => { results := [.lit (.bool true)], args := [d] }
  | _ => none }
def fnHyphensOfRow : OpenClaim := { program := "ytckfpneooknifaa", sum := "824ade8750246ff4597080f16d37e46b77af1a3898ea7c2b4e2b84a1ab9c7c3f", func := "loop.example/textsinlines/laws.FnHyphensOf", spec := "fnHyphensOf", unfollowed := true, recurses := true, apart := false }
def FnHyphensOfSaid : Prop := fnHyphensOfRow.holds Try.pinned (OpenSpec.ofChange fnHyphensOfSpec)

/-- ITS FALSE NEIGHBOUR: 'it returns false'. Refute it at one input. -/
def fnHyphensOfWrong : ChangeSpec := { name := "fnHyphensOf", fn := fun _ => fun
  | [d] => { results := [.lit (.bool false)], args := [d] }
  | _ => none }
def FnHyphensOfWrongFalsely : Prop := fnHyphensOfRow.holds Try.pinned (OpenSpec.ofChange fnHyphensOfWrong)

/-- 'laws.FnBreakWord': WHATEVER THE INPUT: true; the input reads as it did. -/
def fnBreakWordSpec : ChangeSpec := { name := "fnBreakWord", fn := fun _ => fun
  | [d] => { results := [.lit (.bool true)], args := [d] }
  | _ => none }
def fnBreakWordRow : OpenClaim := { program := "ytckfpneooknifaa", sum := "824ade8750246ff4597080f16d37e46b77af1a3898ea7c2b4e2b84a1ab9c7c3f", func := "loop.example/textsinlines/laws.FnBreakWord", spec := "fnBreakWord", unfollowed := true, recurses := true, apart := false }
def FnBreakWordSaid : Prop := fnBreakWordRow.holds Try.pinned (OpenSpec.ofChange fnBreakWordSpec)

/-- ITS FALSE NEIGHBOUR: 'it returns false'. Refute it at one input. -/
def fnBreakWordWrong : ChangeSpec := { name := "fnBreakWord", fn := fun _ => fun
  | [d] => { results := [.lit (.bool false)], args := [d] }
  | _ => none }
def FnBreakWordWrongFalsely : Prop := fnBreakWordRow.holds Try.pinned (OpenSpec.ofChange fnBreakWordWrong)

/-- 'laws.FnExactCommonOf': WHATEVER THE INPUT: true; the input reads as it did. -/
def fnExactCommonOfSpec : ChangeSpec := { name := "fnExactCommonOf", fn := fun _ => fun
  | [d1, d2] => { results := [.lit (.bool true)], args := [d1, d2] }
  | _ => none }
def fnExactCommonOfRow : OpenClaim := { program := "ytckfpneooknifaa", sum := "824ade8750246ff4597080f16d37e46b77af1a3898ea7c2b4e2b84a1ab9c7c3f", func := "loop.example/textsinlines/laws.FnExactCommonOf", spec := "fnExactCommonOf", unfollowed := true, recurses := true, apart := false }
def FnExactCommonOfSaid : Prop := fnExactCommonOfRow.holds Try.pinned (OpenSpec.ofChange fnExactCommonOfSpec)

/-- ITS FALSE NEIGHBOUR: 'it returns false'. Refute it at one input. -/
def fnExactCommonOfWrong : ChangeSpec := { name := "fnExactCommonOf", fn := fun _ => fun
  | [d1, d2] => { results := [.lit (.bool false)], args := [d1, d2] }
  | _ => none }
def FnExactCommonOfWrongFalsely : Prop := fnExactCommonOfRow.holds Try.pinned (OpenSpec.ofChange fnExactCommonOfWrong)

/-- 'laws.FnExactApplyChanges': WHATEVER THE INPUT: true; the input reads as it did. -/
def fnExactApplyChangesSpec : ChangeSpec := { name := "fnExactApplyChanges", fn := fun _ => fun
  | [d1, d2] => { results := [.lit (.bool true)], args := [d1, d2] }
  | _ => none }
def fnExactApplyChangesRow : OpenClaim := { program := "ytckfpneooknifaa", sum := "824ade8750246ff4597080f16d37e46b77af1a3898ea7c2b4e2b84a1ab9c7c3f", func := "loop.example/textsinlines/laws.FnExactApplyChanges", spec := "fnExactApplyChanges", apart := false }
def FnExactApplyChangesSaid : Prop := fnExactApplyChangesRow.holds Try.pinned (OpenSpec.ofChange fnExactApplyChangesSpec)

/-- ITS FALSE NEIGHBOUR: 'it returns false'. Refute it at one input. -/
def fnExactApplyChangesWrong : ChangeSpec := { name := "fnExactApplyChanges", fn := fun _ => fun
  | [d1, d2] => { results := [.lit (.bool false)], args := [d1, d2] }
  | _ => none }
def FnExactApplyChangesWrongFalsely : Prop := fnExactApplyChangesRow.holds Try.pinned (OpenSpec.ofChange fnExactApplyChangesWrong)

/-- 'laws.FnExactTurnChanges': WHATEVER THE INPUT: true; the input reads as it did. -/
def fnExactTurnChangesSpec : ChangeSpec := { name := "fnExactTurnChanges", fn := fun _ => fun
  | [d] => { results := [.lit (.bool true)], args := [d] }
  | _ => none }
def fnExactTurnChangesRow : OpenClaim := { program := "ytckfpneooknifaa", sum := "824ade8750246ff4597080f16d37e46b77af1a3898ea7c2b4e2b84a1ab9c7c3f", func := "loop.example/textsinlines/laws.FnExactTurnChanges", spec := "fnExactTurnChanges", apart := false }
def FnExactTurnChangesSaid : Prop := fnExactTurnChangesRow.holds Try.pinned (OpenSpec.ofChange fnExactTurnChangesSpec)

/-- ITS FALSE NEIGHBOUR: 'it returns false'. Refute it at one input. -/
def fnExactTurnChangesWrong : ChangeSpec := { name := "fnExactTurnChanges", fn := fun _ => fun
  | [d] => { results := [.lit (.bool false)], args := [d] }
  | _ => none }
def FnExactTurnChangesWrongFalsely : Prop := fnExactTurnChangesRow.holds Try.pinned (OpenSpec.ofChange fnExactTurnChangesWrong)

/-- 'laws.FnExactLevelsOf': WHATEVER THE INPUT: true; the input reads as it did. -/
def fnExactLevelsOfSpec : ChangeSpec := { name := "fnExactLevelsOf", fn := fun _ => fun
  | [d1, d2] => { results := [.lit (.bool true)], args := [d1, d2] }
  | _ => none }
def fnExactLevelsOfRow : OpenClaim := { program := "ytckfpneooknifaa", sum := "824ade8750246ff4597080f16d37e46b77af1a3898ea7c2b4e2b84a1ab9c7c3f", func := "loop.example/textsinlines/laws.FnExactLevelsOf", spec := "fnExactLevelsOf", apart := false }
def FnExactLevelsOfSaid : Prop := fnExactLevelsOfRow.holds Try.pinned (OpenSpec.ofChange fnExactLevelsOfSpec)

/-- ITS FALSE NEIGHBOUR: 'it returns false'. Refute it at one input. -/
def fnExactLevelsOfWrong : ChangeSpec := { name := "fnExactLevelsOf", fn := fun _ => fun
  | [d1, d2] => { results := [.lit (.bool false)], args := [d1, d2] }
  | _ => none }
def FnExactLevelsOfWrongFalsely : Prop := fnExactLevelsOfRow.holds Try.pinned (OpenSpec.ofChange fnExactLevelsOfWrong)

/-- 'laws.FnExactHyphensOf': WHATEVER THE INPUT: true; the input reads as it did. -/
def fnExactHyphensOfSpec : ChangeSpec := { name := "fnExactHyphensOf", fn := fun _ => fun
  | [d1, d2] => { results := [.lit (.bool true)], args := [d1, d2] }
  | _ => none }
def fnExactHyphensOfRow : OpenClaim := { program := "ytckfpneooknifaa", sum := "824ade8750246ff4597080f16d37e46b77af1a3898ea7c2b4e2b84a1ab9c7c3f", func := "loop.example/textsinlines/laws.FnExactHyphensOf", spec := "fnExactHyphensOf", unfollowed := true, recurses := true, apart := false }
def FnExactHyphensOfSaid : Prop := fnExactHyphensOfRow.holds Try.pinned (OpenSpec.ofChange fnExactHyphensOfSpec)

/-- ITS FALSE NEIGHBOUR: 'it returns false'. Refute it at one input. -/
def fnExactHyphensOfWrong : ChangeSpec := { name := "fnExactHyphensOf", fn := fun _ => fun
  | [d1, d2] => { results := [.lit (.bool false)], args := [d1, d2] }
  | _ => none }
def FnExactHyphensOfWrongFalsely : Prop := fnExactHyphensOfRow.holds Try.pinned (OpenSpec.ofChange fnExactHyphensOfWrong)

/-- 'laws.FnExactBreakWord': WHATEVER THE INPUT: true; the input reads as it did. -/
def fnExactBreakWordSpec : ChangeSpec := { name := "fnExactBreakWord", fn := fun _ => fun
  | [d1, d2, d3] => { results := [.lit (.bool true)], args := [d1, d2, d3] }
  | _ => none }
def fnExactBreakWordRow : OpenClaim := { program := "ytckfpneooknifaa", sum := "824ade8750246ff4597080f16d37e46b77af1a3898ea7c2b4e2b84a1ab9c7c3f", func := "loop.example/textsinlines/laws.FnExactBreakWord", spec := "fnExactBreakWord", unfollowed := true, recurses := true, apart := false }
def FnExactBreakWordSaid : Prop := fnExactBreakWordRow.holds Try.pinned (OpenSpec.ofChange fnExactBreakWordSpec)

/-- ITS FALSE NEIGHBOUR: 'it returns false'. Refute it at one input. -/
def fnExactBreakWordWrong : ChangeSpec := { name := "fnExactBreakWord", fn := fun _ => fun
  | [d1, d2, d3] => { results := [.lit (.bool false)], args := [d1, d2, d3] }
  | _ => none }
def FnExactBreakWordWrongFalsely : Prop := fnExactBreakWordRow.holds Try.pinned (OpenSpec.ofChange fnExactBreakWordWrong)

/- THE SECOND FORM. 'bulk': how many values and letters a reading holds, each counted each time it is reached (what is shared counts as often as it is met; a slice's spare places count too). A statement '..UptoSaid' is the law's where the arguments, and the package variables that the reading takes, are together of bulk at most 1048576: NARROWER than '..Said'. Prove '..Said' where nothing that the law and all that it calls make is longer than what came in: it says more and counts as full. Else prove '..UptoSaid'. A law counts once. -/
mutual
def uptoBulk {H : Type} : DataW H → Nat
  | .lit (.string bytes) => bytes.length + 1
  | .lit _ => 1
  | .nil => 1
  | .ptr d => uptoBulk d + 1
  | .slice elems spare => uptoBulkAll elems + uptoBulkAll spare + 1
  | .agg parts => uptoBulkAll parts + 1
  | .iface _ d => uptoBulk d + 1
  | .map entries => uptoBulkEntries entries + 1
  | .held _ => 1
def uptoBulkAll {H : Type} : List (DataW H) → Nat
  | [] => 0
  | d :: r => uptoBulk d + uptoBulkAll r
def uptoBulkEntries {H : Type} : List (Lit × DataW H) → Nat
  | [] => 0
  | x :: r => uptoBulkEntry x + uptoBulkEntries r
def uptoBulkEntry {H : Type} : Lit × DataW H → Nat
  | (.string bytes, d) => bytes.length + uptoBulk d + 1
  | (_, d) => uptoBulk d + 1
 end
def uptoSmall : (H : Type) → List (DataW H) → Bool := fun _ ds => decide (uptoBulkAll ds ≤ 1048576)
def OpenSpec.upto (s : _root_.Go.ChangeSpec) : _root_.Go.OpenSpec := { _root_.Go.OpenSpec.ofChange s with cond := some uptoSmall }

/-- 'laws.FnValidWords', WHERE WHAT IT READS IS OF BULK AT MOST 1048576: true; the input reads as it did. -/
def fnValidWordsUptoRow : OpenClaim := { program := "ytckfpneooknifaa", sum := "824ade8750246ff4597080f16d37e46b77af1a3898ea7c2b4e2b84a1ab9c7c3f", func := "loop.example/textsinlines/laws.FnValidWords", spec := "fnValidWords", inPlace := ["internal/bytealg.IndexByteString", "internal/bytealg.IndexString"], named := ["internal/bytealg.MaxLen"], apart := false, narrowed := true }
def FnValidWordsUptoSaid : Prop := fnValidWordsUptoRow.holds Try.pinned (OpenSpec.upto fnValidWordsSpec)

/-- 'laws.FnCommonOf', WHERE WHAT IT READS IS OF BULK AT MOST 1048576: true; the input reads as it did. -/
def fnCommonOfUptoRow : OpenClaim := { program := "ytckfpneooknifaa", sum := "824ade8750246ff4597080f16d37e46b77af1a3898ea7c2b4e2b84a1ab9c7c3f", func := "loop.example/textsinlines/laws.FnCommonOf", spec := "fnCommonOf", unfollowed := true, recurses := true, apart := false, narrowed := true }
def FnCommonOfUptoSaid : Prop := fnCommonOfUptoRow.holds Try.pinned (OpenSpec.upto fnCommonOfSpec)

/-- 'laws.FnApplyChanges', WHERE WHAT IT READS IS OF BULK AT MOST 1048576: true; the input reads as it did. -/
def fnApplyChangesUptoRow : OpenClaim := { program := "ytckfpneooknifaa", sum := "824ade8750246ff4597080f16d37e46b77af1a3898ea7c2b4e2b84a1ab9c7c3f", func := "loop.example/textsinlines/laws.FnApplyChanges", spec := "fnApplyChanges", apart := false, narrowed := true }
def FnApplyChangesUptoSaid : Prop := fnApplyChangesUptoRow.holds Try.pinned (OpenSpec.upto fnApplyChangesSpec)

/-- 'laws.FnTurnChanges', WHERE WHAT IT READS IS OF BULK AT MOST 1048576: true; the input reads as it did. -/
def fnTurnChangesUptoRow : OpenClaim := { program := "ytckfpneooknifaa", sum := "824ade8750246ff4597080f16d37e46b77af1a3898ea7c2b4e2b84a1ab9c7c3f", func := "loop.example/textsinlines/laws.FnTurnChanges", spec := "fnTurnChanges", apart := false, narrowed := true }
def FnTurnChangesUptoSaid : Prop := fnTurnChangesUptoRow.holds Try.pinned (OpenSpec.upto fnTurnChangesSpec)

/-- 'laws.FnLevelsOf', WHERE WHAT IT READS IS OF BULK AT MOST 1048576: true; the input reads as it did. -/
def fnLevelsOfUptoRow : OpenClaim := { program := "ytckfpneooknifaa", sum := "824ade8750246ff4597080f16d37e46b77af1a3898ea7c2b4e2b84a1ab9c7c3f", func := "loop.example/textsinlines/laws.FnLevelsOf", spec := "fnLevelsOf", unfollowed := true, recurses := true, apart := false, narrowed := true }
def FnLevelsOfUptoSaid : Prop := fnLevelsOfUptoRow.holds Try.pinned (OpenSpec.upto fnLevelsOfSpec)

/-- 'laws.FnHyphensOf', WHERE WHAT IT READS IS OF BULK AT MOST 1048576: true; the input reads as it did. -/
def fnHyphensOfUptoRow : OpenClaim := { program := "ytckfpneooknifaa", sum := "824ade8750246ff4597080f16d37e46b77af1a3898ea7c2b4e2b84a1ab9c7c3f", func := "loop.example/textsinlines/laws.FnHyphensOf", spec := "fnHyphensOf", unfollowed := true, recurses := true, apart := false, narrowed := true }
def FnHyphensOfUptoSaid : Prop := fnHyphensOfUptoRow.holds Try.pinned (OpenSpec.upto fnHyphensOfSpec)

/-- 'laws.FnBreakWord', WHERE WHAT IT READS IS OF BULK AT MOST 1048576: true; the input reads as it did. -/
def fnBreakWordUptoRow : OpenClaim := { program := "ytckfpneooknifaa", sum := "824ade8750246ff4597080f16d37e46b77af1a3898ea7c2b4e2b84a1ab9c7c3f", func := "loop.example/textsinlines/laws.FnBreakWord", spec := "fnBreakWord", unfollowed := true, recurses := true, apart := false, narrowed := true }
def FnBreakWordUptoSaid : Prop := fnBreakWordUptoRow.holds Try.pinned (OpenSpec.upto fnBreakWordSpec)

/-- 'laws.FnExactCommonOf', WHERE WHAT IT READS IS OF BULK AT MOST 1048576: true; the input reads as it did. -/
def fnExactCommonOfUptoRow : OpenClaim := { program := "ytckfpneooknifaa", sum := "824ade8750246ff4597080f16d37e46b77af1a3898ea7c2b4e2b84a1ab9c7c3f", func := "loop.example/textsinlines/laws.FnExactCommonOf", spec := "fnExactCommonOf", unfollowed := true, recurses := true, apart := false, narrowed := true }
def FnExactCommonOfUptoSaid : Prop := fnExactCommonOfUptoRow.holds Try.pinned (OpenSpec.upto fnExactCommonOfSpec)

/-- 'laws.FnExactApplyChanges', WHERE WHAT IT READS IS OF BULK AT MOST 1048576: true; the input reads as it did. -/
def fnExactApplyChangesUptoRow : OpenClaim := { program := "ytckfpneooknifaa", sum := "824ade8750246ff4597080f16d37e46b77af1a3898ea7c2b4e2b84a1ab9c7c3f", func := "loop.example/textsinlines/laws.FnExactApplyChanges", spec := "fnExactApplyChanges", apart := false, narrowed := true }
def FnExactApplyChangesUptoSaid : Prop := fnExactApplyChangesUptoRow.holds Try.pinned (OpenSpec.upto fnExactApplyChangesSpec)

/-- 'laws.FnExactTurnChanges', WHERE WHAT IT READS IS OF BULK AT MOST 1048576: true; the input reads as it did. -/
def fnExactTurnChangesUptoRow : OpenClaim := { program := "ytckfpneooknifaa", sum := "824ade8750246ff4597080f16d37e46b77af1a3898ea7c2b4e2b84a1ab9c7c3f", func := "loop.example/textsinlines/laws.FnExactTurnChanges", spec := "fnExactTurnChanges", apart := false, narrowed := true }
def FnExactTurnChangesUptoSaid : Prop := fnExactTurnChangesUptoRow.holds Try.pinned (OpenSpec.upto fnExactTurnChangesSpec)

/-- 'laws.FnExactLevelsOf', WHERE WHAT IT READS IS OF BULK AT MOST 1048576: true; the input reads as it did. -/
def fnExactLevelsOfUptoRow : OpenClaim := { program := "ytckfpneooknifaa", sum := "824ade8750246ff4597080f16d37e46b77af1a3898ea7c2b4e2b84a1ab9c7c3f", func := "loop.example/textsinlines/laws.FnExactLevelsOf", spec := "fnExactLevelsOf", apart := false, narrowed := true }
def FnExactLevelsOfUptoSaid : Prop := fnExactLevelsOfUptoRow.holds Try.pinned (OpenSpec.upto fnExactLevelsOfSpec)

/-- 'laws.FnExactHyphensOf', WHERE WHAT IT READS IS OF BULK AT MOST 1048576: true; the input reads as it did. -/
def fnExactHyphensOfUptoRow : OpenClaim := { program := "ytckfpneooknifaa", sum := "824ade8750246ff4597080f16d37e46b77af1a3898ea7c2b4e2b84a1ab9c7c3f", func := "loop.example/textsinlines/laws.FnExactHyphensOf", spec := "fnExactHyphensOf", unfollowed := true, recurses := true, apart := false, narrowed := true }
def FnExactHyphensOfUptoSaid : Prop := fnExactHyphensOfUptoRow.holds Try.pinned (OpenSpec.upto fnExactHyphensOfSpec)

/-- 'laws.FnExactBreakWord', WHERE WHAT IT READS IS OF BULK AT MOST 1048576: true; the input reads as it did. -/
def fnExactBreakWordUptoRow : OpenClaim := { program := "ytckfpneooknifaa", sum := "824ade8750246ff4597080f16d37e46b77af1a3898ea7c2b4e2b84a1ab9c7c3f", func := "loop.example/textsinlines/laws.FnExactBreakWord", spec := "fnExactBreakWord", unfollowed := true, recurses := true, apart := false, narrowed := true }
def FnExactBreakWordUptoSaid : Prop := fnExactBreakWordUptoRow.holds Try.pinned (OpenSpec.upto fnExactBreakWordSpec)

end Rows
end Go.Proofs.Ytckfpneooknifaa
