/-
  DERIVED. GIVEN WITH THE SEED: THE CARDS: each row of YtadlelcckalcoaaDoorRows.lean that lists a variable, with what it lists TIED to the program's text (the seventh form; the later family's looks); each row that meets fmt, with fmt's text TOLD by the authors' own Lean function (tested against real Go, not proved from fmt's source: count such statements apart). THE CARD IS WHAT COUNTS. Prove the row's statement (the work); the ties are given (YtadlelcckalcoaaDoorTie.lean); close each card by the builder's one call (the guide's Derived/Test/ToyasCard.lean, 'card_holds'). Laid BY PROGRAM, IN A SANDBOX (cutbox-door.mjs). By AI agents, Wed Nov 11 2026. No macro, syntax, notation, axiom, sorry.
-/
import Derived.Test.YtadlelcckalcoaaDoorRows
import GoSem.ClaimSeven
namespace Go.Proofs.YtadlelcckalcoaaDoor
namespace Rows

/-- THE TIED CARD OF 'laws.FnValidForm'. -/
def fnValidFormCard : Claim7 := { stood := { row := fnValidFormRow, standIns := [], harness := (true, "1b64e84058eed6450f84a443cda1430ecfa06260648ad9402b3c81661ce55ac8"), looks := true }, kinds := [], alts := [], laidByText := true, laidKinds := [.data, .handle, .pinned], laidTests := true, laidLooks := .later }
def FnValidFormCardSaid : Prop := Claim7.holds Tryd.pinned (.plain (OpenSpec.ofChange fnValidFormSpec)) fnValidFormCard

/-- THE TIED CARD OF 'laws.FnHolesOf'. -/
def fnHolesOfCard : Claim7 := { stood := { row := fnHolesOfRow, standIns := [], harness := (true, "1b64e84058eed6450f84a443cda1430ecfa06260648ad9402b3c81661ce55ac8"), looks := true }, kinds := [], alts := [], laidByText := true, laidKinds := [.handle], laidTests := true, laidLooks := .later }
def FnHolesOfCardSaid : Prop := Claim7.holds Tryd.pinned (.plain (OpenSpec.ofChange fnHolesOfSpec)) fnHolesOfCard

/-- THE TIED CARD OF 'laws.FnEscapeForm'. -/
def fnEscapeFormCard : Claim7 := { stood := { row := fnEscapeFormRow, standIns := [], harness := (true, "1b64e84058eed6450f84a443cda1430ecfa06260648ad9402b3c81661ce55ac8"), looks := true }, kinds := [], alts := [], laidByText := true, laidKinds := [.data, .pinned], laidTests := true, laidLooks := .later }
def FnEscapeFormCardSaid : Prop := Claim7.holds Tryd.pinned (.plain (OpenSpec.ofChange fnEscapeFormSpec)) fnEscapeFormCard

/-- THE TIED CARD OF 'laws.FnFillForm'. -/
def fnFillFormCard : Claim7 := { stood := { row := fnFillFormRow, standIns := [], harness := (true, "1b64e84058eed6450f84a443cda1430ecfa06260648ad9402b3c81661ce55ac8"), looks := true }, kinds := [], alts := [], laidByText := true, laidKinds := [.data, .pinned], laidTests := true, laidLooks := .later }
def FnFillFormCardSaid : Prop := Claim7.holds Tryd.pinned (.plain (OpenSpec.ofChange fnFillFormSpec)) fnFillFormCard

/-- THE TIED CARD OF 'laws.FnFillSome'. -/
def fnFillSomeCard : Claim7 := { stood := { row := fnFillSomeRow, standIns := [], harness := (true, "1b64e84058eed6450f84a443cda1430ecfa06260648ad9402b3c81661ce55ac8"), looks := true }, kinds := [], alts := [], laidByText := true, laidKinds := [.data, .pinned], laidTests := true, laidLooks := .later }
def FnFillSomeCardSaid : Prop := Claim7.holds Tryd.pinned (.plain (OpenSpec.ofChange fnFillSomeSpec)) fnFillSomeCard

/-- THE TIED CARD OF 'laws.FnExactValidForm'. -/
def fnExactValidFormCard : Claim7 := { stood := { row := fnExactValidFormRow, standIns := [], harness := (true, "1b64e84058eed6450f84a443cda1430ecfa06260648ad9402b3c81661ce55ac8"), looks := true }, kinds := [], alts := [], laidByText := true, laidKinds := [.handle], laidTests := true, laidLooks := .later }
def FnExactValidFormCardSaid : Prop := Claim7.holds Tryd.pinned (.plain (OpenSpec.ofChange fnExactValidFormSpec)) fnExactValidFormCard

/-- THE TIED CARD OF 'laws.FnExactEscapeForm'. -/
def fnExactEscapeFormCard : Claim7 := { stood := { row := fnExactEscapeFormRow, standIns := [], harness := (true, "1b64e84058eed6450f84a443cda1430ecfa06260648ad9402b3c81661ce55ac8"), looks := true }, kinds := [], alts := [], laidByText := true, laidKinds := [.data, .pinned], laidTests := true, laidLooks := .later }
def FnExactEscapeFormCardSaid : Prop := Claim7.holds Tryd.pinned (.plain (OpenSpec.ofChange fnExactEscapeFormSpec)) fnExactEscapeFormCard

/-- THE TIED CARD OF 'laws.FnExactFillSome'. -/
def fnExactFillSomeCard : Claim7 := { stood := { row := fnExactFillSomeRow, standIns := [], harness := (true, "1b64e84058eed6450f84a443cda1430ecfa06260648ad9402b3c81661ce55ac8"), looks := true }, kinds := [], alts := [], laidByText := true, laidKinds := [.data, .pinned], laidTests := true, laidLooks := .later }
def FnExactFillSomeCardSaid : Prop := Claim7.holds Tryd.pinned (.plain (OpenSpec.ofChange fnExactFillSomeSpec)) fnExactFillSomeCard

/-- THE SECOND FORM's CARD OF 'laws.FnValidForm'. -/
def fnValidFormUptoCard : Claim7 := { stood := { row := fnValidFormUptoRow, standIns := [], harness := (true, "1b64e84058eed6450f84a443cda1430ecfa06260648ad9402b3c81661ce55ac8"), looks := true }, kinds := [], alts := [], laidByText := true, laidKinds := [.data, .handle, .pinned], laidTests := true, laidLooks := .later }
def FnValidFormUptoCardSaid : Prop := Claim7.holds Tryd.pinned (.plain (OpenSpec.upto fnValidFormSpec)) fnValidFormUptoCard

/-- THE SECOND FORM's CARD OF 'laws.FnHolesOf'. -/
def fnHolesOfUptoCard : Claim7 := { stood := { row := fnHolesOfUptoRow, standIns := [], harness := (true, "1b64e84058eed6450f84a443cda1430ecfa06260648ad9402b3c81661ce55ac8"), looks := true }, kinds := [], alts := [], laidByText := true, laidKinds := [.handle], laidTests := true, laidLooks := .later }
def FnHolesOfUptoCardSaid : Prop := Claim7.holds Tryd.pinned (.plain (OpenSpec.upto fnHolesOfSpec)) fnHolesOfUptoCard

/-- THE SECOND FORM's CARD OF 'laws.FnEscapeForm'. -/
def fnEscapeFormUptoCard : Claim7 := { stood := { row := fnEscapeFormUptoRow, standIns := [], harness := (true, "1b64e84058eed6450f84a443cda1430ecfa06260648ad9402b3c81661ce55ac8"), looks := true }, kinds := [], alts := [], laidByText := true, laidKinds := [.data, .pinned], laidTests := true, laidLooks := .later }
def FnEscapeFormUptoCardSaid : Prop := Claim7.holds Tryd.pinned (.plain (OpenSpec.upto fnEscapeFormSpec)) fnEscapeFormUptoCard

/-- THE SECOND FORM's CARD OF 'laws.FnFillForm'. -/
def fnFillFormUptoCard : Claim7 := { stood := { row := fnFillFormUptoRow, standIns := [], harness := (true, "1b64e84058eed6450f84a443cda1430ecfa06260648ad9402b3c81661ce55ac8"), looks := true }, kinds := [], alts := [], laidByText := true, laidKinds := [.data, .pinned], laidTests := true, laidLooks := .later }
def FnFillFormUptoCardSaid : Prop := Claim7.holds Tryd.pinned (.plain (OpenSpec.upto fnFillFormSpec)) fnFillFormUptoCard

/-- THE SECOND FORM's CARD OF 'laws.FnFillSome'. -/
def fnFillSomeUptoCard : Claim7 := { stood := { row := fnFillSomeUptoRow, standIns := [], harness := (true, "1b64e84058eed6450f84a443cda1430ecfa06260648ad9402b3c81661ce55ac8"), looks := true }, kinds := [], alts := [], laidByText := true, laidKinds := [.data, .pinned], laidTests := true, laidLooks := .later }
def FnFillSomeUptoCardSaid : Prop := Claim7.holds Tryd.pinned (.plain (OpenSpec.upto fnFillSomeSpec)) fnFillSomeUptoCard

/-- THE SECOND FORM's CARD OF 'laws.FnExactValidForm'. -/
def fnExactValidFormUptoCard : Claim7 := { stood := { row := fnExactValidFormUptoRow, standIns := [], harness := (true, "1b64e84058eed6450f84a443cda1430ecfa06260648ad9402b3c81661ce55ac8"), looks := true }, kinds := [], alts := [], laidByText := true, laidKinds := [.handle], laidTests := true, laidLooks := .later }
def FnExactValidFormUptoCardSaid : Prop := Claim7.holds Tryd.pinned (.plain (OpenSpec.upto fnExactValidFormSpec)) fnExactValidFormUptoCard

/-- THE SECOND FORM's CARD OF 'laws.FnExactEscapeForm'. -/
def fnExactEscapeFormUptoCard : Claim7 := { stood := { row := fnExactEscapeFormUptoRow, standIns := [], harness := (true, "1b64e84058eed6450f84a443cda1430ecfa06260648ad9402b3c81661ce55ac8"), looks := true }, kinds := [], alts := [], laidByText := true, laidKinds := [.data, .pinned], laidTests := true, laidLooks := .later }
def FnExactEscapeFormUptoCardSaid : Prop := Claim7.holds Tryd.pinned (.plain (OpenSpec.upto fnExactEscapeFormSpec)) fnExactEscapeFormUptoCard

/-- THE SECOND FORM's CARD OF 'laws.FnExactFillSome'. -/
def fnExactFillSomeUptoCard : Claim7 := { stood := { row := fnExactFillSomeUptoRow, standIns := [], harness := (true, "1b64e84058eed6450f84a443cda1430ecfa06260648ad9402b3c81661ce55ac8"), looks := true }, kinds := [], alts := [], laidByText := true, laidKinds := [.data, .pinned], laidTests := true, laidLooks := .later }
def FnExactFillSomeUptoCardSaid : Prop := Claim7.holds Tryd.pinned (.plain (OpenSpec.upto fnExactFillSomeSpec)) fnExactFillSomeUptoCard
end Rows
end Go.Proofs.YtadlelcckalcoaaDoor
