/-
  DERIVED. GIVEN WITH THE SEED: THE CARDS: each row of YtkbfceahhginhaaRRRRDoorRRRRRows.lean that lists a variable, with what it lists TIED to the program's text (the seventh form; the later family's looks); each row that meets fmt, with fmt's text TOLD by the authors' own Lean function (tested against real Go, not proved from fmt's source: count such statements apart). THE CARD IS WHAT COUNTS. Prove the row's statement (the work); the ties are given (YtkbfceahhginhaaRRRRDoorRRRRTie.lean); close each card by the builder's one call (the guide's Derived/Test/ToyasCard.lean, 'card_holds'). Laid BY PROGRAM, IN A SANDBOX (cutbox-door.mjs). By AI agents, Wed Nov 11 2026. No macro, syntax, notation, axiom, sorry.
-/
import Derived.Test.YtkbfceahhginhaaRRRRDoorRRRRRows
import GoSem.ClaimSeven
namespace Go.Proofs.YtkbfceahhginhaaRRRRDoorRRRR
namespace Rows

/-- THE TIED CARD OF 'laws.FnDedentLines'. -/
def fnDedentLinesCard : Claim7 := { stood := { row := fnDedentLinesRow, standIns := [], harness := (true, "228f9bac1b19be7bfd1868434098d1d4f1fefb047f68e74a23d63465e34a6823"), looks := false }, kinds := [], alts := [], laidByText := true, laidKinds := [.data, .pinned], laidTests := true, laidLooks := .later }
def FnDedentLinesCardSaid : Prop := Claim7.holds Tryd.pinned (.plain (OpenSpec.ofChange fnDedentLinesSpec)) fnDedentLinesCard

/-- THE TIED CARD OF 'laws.FnIndentLines'. -/
def fnIndentLinesCard : Claim7 := { stood := { row := fnIndentLinesRow, standIns := [], harness := (true, "228f9bac1b19be7bfd1868434098d1d4f1fefb047f68e74a23d63465e34a6823"), looks := false }, kinds := [], alts := [], laidByText := true, laidKinds := [.data, .pinned], laidTests := true, laidLooks := .later }
def FnIndentLinesCardSaid : Prop := Claim7.holds Tryd.pinned (.plain (OpenSpec.ofChange fnIndentLinesSpec)) fnIndentLinesCard

/-- THE TIED CARD OF 'laws.FnUnquoteLine'. -/
def fnUnquoteLineCard : Claim7 := { stood := { row := fnUnquoteLineRow, standIns := [], harness := (true, "228f9bac1b19be7bfd1868434098d1d4f1fefb047f68e74a23d63465e34a6823"), looks := false }, kinds := [], alts := [], laidByText := true, laidKinds := [.data, .pinned], laidTests := true, laidLooks := .later }
def FnUnquoteLineCardSaid : Prop := Claim7.holds Tryd.pinned (.plain (OpenSpec.ofChange fnUnquoteLineSpec)) fnUnquoteLineCard

/-- THE TIED CARD OF 'laws.FnExactIndentLines'. -/
def fnExactIndentLinesCard : Claim7 := { stood := { row := fnExactIndentLinesRow, standIns := [], harness := (true, "228f9bac1b19be7bfd1868434098d1d4f1fefb047f68e74a23d63465e34a6823"), looks := false }, kinds := [], alts := [], laidByText := true, laidKinds := [.data, .pinned], laidTests := true, laidLooks := .later }
def FnExactIndentLinesCardSaid : Prop := Claim7.holds Tryd.pinned (.plain (OpenSpec.ofChange fnExactIndentLinesSpec)) fnExactIndentLinesCard

/-- THE TIED CARD OF 'laws.FnExactUnquoteLine'. -/
def fnExactUnquoteLineCard : Claim7 := { stood := { row := fnExactUnquoteLineRow, standIns := [], harness := (true, "228f9bac1b19be7bfd1868434098d1d4f1fefb047f68e74a23d63465e34a6823"), looks := false }, kinds := [], alts := [], laidByText := true, laidKinds := [.data, .pinned], laidTests := true, laidLooks := .later }
def FnExactUnquoteLineCardSaid : Prop := Claim7.holds Tryd.pinned (.plain (OpenSpec.ofChange fnExactUnquoteLineSpec)) fnExactUnquoteLineCard

/-- THE SECOND FORM's CARD OF 'laws.FnDedentLines'. -/
def fnDedentLinesUptoCard : Claim7 := { stood := { row := fnDedentLinesUptoRow, standIns := [], harness := (true, "228f9bac1b19be7bfd1868434098d1d4f1fefb047f68e74a23d63465e34a6823"), looks := false }, kinds := [], alts := [], laidByText := true, laidKinds := [.data, .pinned], laidTests := true, laidLooks := .later }
def FnDedentLinesUptoCardSaid : Prop := Claim7.holds Tryd.pinned (.plain (OpenSpec.upto fnDedentLinesSpec)) fnDedentLinesUptoCard

/-- THE SECOND FORM's CARD OF 'laws.FnIndentLines'. -/
def fnIndentLinesUptoCard : Claim7 := { stood := { row := fnIndentLinesUptoRow, standIns := [], harness := (true, "228f9bac1b19be7bfd1868434098d1d4f1fefb047f68e74a23d63465e34a6823"), looks := false }, kinds := [], alts := [], laidByText := true, laidKinds := [.data, .pinned], laidTests := true, laidLooks := .later }
def FnIndentLinesUptoCardSaid : Prop := Claim7.holds Tryd.pinned (.plain (OpenSpec.upto fnIndentLinesSpec)) fnIndentLinesUptoCard

/-- THE SECOND FORM's CARD OF 'laws.FnUnquoteLine'. -/
def fnUnquoteLineUptoCard : Claim7 := { stood := { row := fnUnquoteLineUptoRow, standIns := [], harness := (true, "228f9bac1b19be7bfd1868434098d1d4f1fefb047f68e74a23d63465e34a6823"), looks := false }, kinds := [], alts := [], laidByText := true, laidKinds := [.data, .pinned], laidTests := true, laidLooks := .later }
def FnUnquoteLineUptoCardSaid : Prop := Claim7.holds Tryd.pinned (.plain (OpenSpec.upto fnUnquoteLineSpec)) fnUnquoteLineUptoCard

/-- THE SECOND FORM's CARD OF 'laws.FnExactIndentLines'. -/
def fnExactIndentLinesUptoCard : Claim7 := { stood := { row := fnExactIndentLinesUptoRow, standIns := [], harness := (true, "228f9bac1b19be7bfd1868434098d1d4f1fefb047f68e74a23d63465e34a6823"), looks := false }, kinds := [], alts := [], laidByText := true, laidKinds := [.data, .pinned], laidTests := true, laidLooks := .later }
def FnExactIndentLinesUptoCardSaid : Prop := Claim7.holds Tryd.pinned (.plain (OpenSpec.upto fnExactIndentLinesSpec)) fnExactIndentLinesUptoCard

/-- THE SECOND FORM's CARD OF 'laws.FnExactUnquoteLine'. -/
def fnExactUnquoteLineUptoCard : Claim7 := { stood := { row := fnExactUnquoteLineUptoRow, standIns := [], harness := (true, "228f9bac1b19be7bfd1868434098d1d4f1fefb047f68e74a23d63465e34a6823"), looks := false }, kinds := [], alts := [], laidByText := true, laidKinds := [.data, .pinned], laidTests := true, laidLooks := .later }
def FnExactUnquoteLineUptoCardSaid : Prop := Claim7.holds Tryd.pinned (.plain (OpenSpec.upto fnExactUnquoteLineSpec)) fnExactUnquoteLineUptoCard
end Rows
end Go.Proofs.YtkbfceahhginhaaRRRRDoorRRRR
