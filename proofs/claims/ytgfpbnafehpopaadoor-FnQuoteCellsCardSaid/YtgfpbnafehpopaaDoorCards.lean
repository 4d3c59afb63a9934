/-
  DERIVED. GIVEN WITH THE SEED: THE CARDS: each row of YtgfpbnafehpopaaDoorRows.lean that lists a variable, with what it lists TIED to the program's text (the seventh form; the later family's looks); each row that meets fmt, with fmt's text TOLD by the authors' own Lean function (tested against real Go, not proved from fmt's source: count such statements apart). THE CARD IS WHAT COUNTS. Prove the row's statement (the work); the ties are given (YtgfpbnafehpopaaDoorTie.lean); close each card by the builder's one call (the guide's Derived/Test/ToyasCard.lean, 'card_holds'). Laid BY PROGRAM, IN A SANDBOX (cutbox-door.mjs). By AI agents, Wed Nov 11 2026. No macro, syntax, notation, axiom, sorry.
-/
import Derived.Test.YtgfpbnafehpopaaDoorRows
import GoSem.ClaimSeven
namespace Go.Proofs.YtgfpbnafehpopaaDoor
namespace Rows

/-- THE TIED CARD OF 'laws.FnRenderRows'. -/
def fnRenderRowsCard : Claim7 := { stood := { row := fnRenderRowsRow, standIns := [], harness := (true, "7bbbb53ae543f000861778d78738468fdc0c8588468ff2e1f29f594e76c6e402"), looks := false }, kinds := [], alts := [], laidByText := true, laidKinds := [.data, .pinned], laidTests := true, laidLooks := .later }
def FnRenderRowsCardSaid : Prop := Claim7.holds Tryd.pinned (.plain (OpenSpec.ofChange fnRenderRowsSpec)) fnRenderRowsCard

/-- THE TIED CARD OF 'laws.FnReadRows'. -/
def fnReadRowsCard : Claim7 := { stood := { row := fnReadRowsRow, standIns := [], harness := (true, "7bbbb53ae543f000861778d78738468fdc0c8588468ff2e1f29f594e76c6e402"), looks := false }, kinds := [], alts := [], laidByText := true, laidKinds := [.data, .pinned], laidTests := true, laidLooks := .later }
def FnReadRowsCardSaid : Prop := Claim7.holds Tryd.pinned (.plain (OpenSpec.ofChange fnReadRowsSpec)) fnReadRowsCard

/-- THE TIED CARD OF 'laws.FnQuoteCells'. -/
def fnQuoteCellsCard : Claim7 := { stood := { row := fnQuoteCellsRow, standIns := [], harness := (true, "7bbbb53ae543f000861778d78738468fdc0c8588468ff2e1f29f594e76c6e402"), looks := false }, kinds := [], alts := [], laidByText := true, laidKinds := [.data, .pinned], laidTests := true, laidLooks := .later }
def FnQuoteCellsCardSaid : Prop := Claim7.holds Tryd.pinned (.plain (OpenSpec.ofChange fnQuoteCellsSpec)) fnQuoteCellsCard

/-- THE TIED CARD OF 'laws.FnReadCells'. -/
def fnReadCellsCard : Claim7 := { stood := { row := fnReadCellsRow, standIns := [], harness := (true, "7bbbb53ae543f000861778d78738468fdc0c8588468ff2e1f29f594e76c6e402"), looks := false }, kinds := [], alts := [], laidByText := true, laidKinds := [.data, .pinned], laidTests := true, laidLooks := .later }
def FnReadCellsCardSaid : Prop := Claim7.holds Tryd.pinned (.plain (OpenSpec.ofChange fnReadCellsSpec)) fnReadCellsCard

/-- THE TIED CARD OF 'laws.FnExactReadRows'. -/
def fnExactReadRowsCard : Claim7 := { stood := { row := fnExactReadRowsRow, standIns := [], harness := (true, "7bbbb53ae543f000861778d78738468fdc0c8588468ff2e1f29f594e76c6e402"), looks := false }, kinds := [], alts := [], laidByText := true, laidKinds := [.data, .pinned], laidTests := true, laidLooks := .later }
def FnExactReadRowsCardSaid : Prop := Claim7.holds Tryd.pinned (.plain (OpenSpec.ofChange fnExactReadRowsSpec)) fnExactReadRowsCard

/-- THE TIED CARD OF 'laws.FnExactQuoteCells'. -/
def fnExactQuoteCellsCard : Claim7 := { stood := { row := fnExactQuoteCellsRow, standIns := [], harness := (true, "7bbbb53ae543f000861778d78738468fdc0c8588468ff2e1f29f594e76c6e402"), looks := false }, kinds := [], alts := [], laidByText := true, laidKinds := [.data, .pinned], laidTests := true, laidLooks := .later }
def FnExactQuoteCellsCardSaid : Prop := Claim7.holds Tryd.pinned (.plain (OpenSpec.ofChange fnExactQuoteCellsSpec)) fnExactQuoteCellsCard

/-- THE TIED CARD OF 'laws.FnExactReadCells'. -/
def fnExactReadCellsCard : Claim7 := { stood := { row := fnExactReadCellsRow, standIns := [], harness := (true, "7bbbb53ae543f000861778d78738468fdc0c8588468ff2e1f29f594e76c6e402"), looks := false }, kinds := [], alts := [], laidByText := true, laidKinds := [.data, .pinned], laidTests := true, laidLooks := .later }
def FnExactReadCellsCardSaid : Prop := Claim7.holds Tryd.pinned (.plain (OpenSpec.ofChange fnExactReadCellsSpec)) fnExactReadCellsCard

/-- THE SECOND FORM's CARD OF 'laws.FnRenderRows'. -/
def fnRenderRowsUptoCard : Claim7 := { stood := { row := fnRenderRowsUptoRow, standIns := [], harness := (true, "7bbbb53ae543f000861778d78738468fdc0c8588468ff2e1f29f594e76c6e402"), looks := false }, kinds := [], alts := [], laidByText := true, laidKinds := [.data, .pinned], laidTests := true, laidLooks := .later }
def FnRenderRowsUptoCardSaid : Prop := Claim7.holds Tryd.pinned (.plain (OpenSpec.upto fnRenderRowsSpec)) fnRenderRowsUptoCard

/-- THE SECOND FORM's CARD OF 'laws.FnReadRows'. -/
def fnReadRowsUptoCard : Claim7 := { stood := { row := fnReadRowsUptoRow, standIns := [], harness := (true, "7bbbb53ae543f000861778d78738468fdc0c8588468ff2e1f29f594e76c6e402"), looks := false }, kinds := [], alts := [], laidByText := true, laidKinds := [.data, .pinned], laidTests := true, laidLooks := .later }
def FnReadRowsUptoCardSaid : Prop := Claim7.holds Tryd.pinned (.plain (OpenSpec.upto fnReadRowsSpec)) fnReadRowsUptoCard

/-- THE SECOND FORM's CARD OF 'laws.FnQuoteCells'. -/
def fnQuoteCellsUptoCard : Claim7 := { stood := { row := fnQuoteCellsUptoRow, standIns := [], harness := (true, "7bbbb53ae543f000861778d78738468fdc0c8588468ff2e1f29f594e76c6e402"), looks := false }, kinds := [], alts := [], laidByText := true, laidKinds := [.data, .pinned], laidTests := true, laidLooks := .later }
def FnQuoteCellsUptoCardSaid : Prop := Claim7.holds Tryd.pinned (.plain (OpenSpec.upto fnQuoteCellsSpec)) fnQuoteCellsUptoCard

/-- THE SECOND FORM's CARD OF 'laws.FnReadCells'. -/
def fnReadCellsUptoCard : Claim7 := { stood := { row := fnReadCellsUptoRow, standIns := [], harness := (true, "7bbbb53ae543f000861778d78738468fdc0c8588468ff2e1f29f594e76c6e402"), looks := false }, kinds := [], alts := [], laidByText := true, laidKinds := [.data, .pinned], laidTests := true, laidLooks := .later }
def FnReadCellsUptoCardSaid : Prop := Claim7.holds Tryd.pinned (.plain (OpenSpec.upto fnReadCellsSpec)) fnReadCellsUptoCard

/-- THE SECOND FORM's CARD OF 'laws.FnExactReadRows'. -/
def fnExactReadRowsUptoCard : Claim7 := { stood := { row := fnExactReadRowsUptoRow, standIns := [], harness := (true, "7bbbb53ae543f000861778d78738468fdc0c8588468ff2e1f29f594e76c6e402"), looks := false }, kinds := [], alts := [], laidByText := true, laidKinds := [.data, .pinned], laidTests := true, laidLooks := .later }
def FnExactReadRowsUptoCardSaid : Prop := Claim7.holds Tryd.pinned (.plain (OpenSpec.upto fnExactReadRowsSpec)) fnExactReadRowsUptoCard

/-- THE SECOND FORM's CARD OF 'laws.FnExactQuoteCells'. -/
def fnExactQuoteCellsUptoCard : Claim7 := { stood := { row := fnExactQuoteCellsUptoRow, standIns := [], harness := (true, "7bbbb53ae543f000861778d78738468fdc0c8588468ff2e1f29f594e76c6e402"), looks := false }, kinds := [], alts := [], laidByText := true, laidKinds := [.data, .pinned], laidTests := true, laidLooks := .later }
def FnExactQuoteCellsUptoCardSaid : Prop := Claim7.holds Tryd.pinned (.plain (OpenSpec.upto fnExactQuoteCellsSpec)) fnExactQuoteCellsUptoCard

/-- THE SECOND FORM's CARD OF 'laws.FnExactReadCells'. -/
def fnExactReadCellsUptoCard : Claim7 := { stood := { row := fnExactReadCellsUptoRow, standIns := [], harness := (true, "7bbbb53ae543f000861778d78738468fdc0c8588468ff2e1f29f594e76c6e402"), looks := false }, kinds := [], alts := [], laidByText := true, laidKinds := [.data, .pinned], laidTests := true, laidLooks := .later }
def FnExactReadCellsUptoCardSaid : Prop := Claim7.holds Tryd.pinned (.plain (OpenSpec.upto fnExactReadCellsSpec)) fnExactReadCellsUptoCard
end Rows
end Go.Proofs.YtgfpbnafehpopaaDoor
