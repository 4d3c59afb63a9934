/-
  DERIVED. GIVEN WITH THE SEED: THE CARDS: each row of YtcghlhjlfppllaaDoorRows.lean that lists a variable, with what it lists TIED to the program's text (the seventh form; the later family's looks); each row that meets fmt, with fmt's text TOLD by the authors' own Lean function (tested against real Go, not proved from fmt's source: count such statements apart). THE CARD IS WHAT COUNTS. Prove the row's statement (the work); the ties are given (YtcghlhjlfppllaaDoorTie.lean); close each card by the builder's one call (the guide's Derived/Test/ToyasCard.lean, 'card_holds'). Laid BY PROGRAM, IN A SANDBOX (cutbox-door.mjs). By AI agents, Wed Nov 11 2026. No macro, syntax, notation, axiom, sorry.
-/
import Derived.Test.YtcghlhjlfppllaaDoorRows
import GoSem.ClaimSeven
namespace Go.Proofs.YtcghlhjlfppllaaDoor
namespace Rows

/-- THE TIED CARD OF 'laws.FnTabText'. -/
def fnTabTextCard : Claim7 := { stood := { row := fnTabTextRow, standIns := [], harness := (true, "9ace7ea82baa59a45e8fe29b46b7508d25bc1db9cd9913f9b1e2564ba80fcb15"), looks := false }, kinds := [], alts := [], laidByText := true, laidKinds := [.data, .pinned], laidTests := true, laidLooks := .later }
def FnTabTextCardSaid : Prop := Claim7.holds Tryd.pinned (.plain (OpenSpec.ofChange fnTabTextSpec)) fnTabTextCard

/-- THE TIED CARD OF 'laws.FnMarginOf'. -/
def fnMarginOfCard : Claim7 := { stood := { row := fnMarginOfRow, standIns := [], harness := (true, "9ace7ea82baa59a45e8fe29b46b7508d25bc1db9cd9913f9b1e2564ba80fcb15"), looks := false }, kinds := [], alts := [], laidByText := true, laidKinds := [.data, .pinned], laidTests := true, laidLooks := .later }
def FnMarginOfCardSaid : Prop := Claim7.holds Tryd.pinned (.plain (OpenSpec.ofChange fnMarginOfSpec)) fnMarginOfCard

/-- THE TIED CARD OF 'laws.FnDedentLines'. -/
def fnDedentLinesCard : Claim7 := { stood := { row := fnDedentLinesRow, standIns := [], harness := (true, "9ace7ea82baa59a45e8fe29b46b7508d25bc1db9cd9913f9b1e2564ba80fcb15"), looks := false }, kinds := [], alts := [], laidByText := true, laidKinds := [.data, .pinned], laidTests := true, laidLooks := .later }
def FnDedentLinesCardSaid : Prop := Claim7.holds Tryd.pinned (.plain (OpenSpec.ofChange fnDedentLinesSpec)) fnDedentLinesCard

/-- THE TIED CARD OF 'laws.FnIndentLines'. -/
def fnIndentLinesCard : Claim7 := { stood := { row := fnIndentLinesRow, standIns := [], harness := (true, "9ace7ea82baa59a45e8fe29b46b7508d25bc1db9cd9913f9b1e2564ba80fcb15"), looks := false }, kinds := [], alts := [], laidByText := true, laidKinds := [.data, .pinned], laidTests := true, laidLooks := .later }
def FnIndentLinesCardSaid : Prop := Claim7.holds Tryd.pinned (.plain (OpenSpec.ofChange fnIndentLinesSpec)) fnIndentLinesCard

/-- THE TIED CARD OF 'laws.FnExactTabText'. -/
def fnExactTabTextCard : Claim7 := { stood := { row := fnExactTabTextRow, standIns := [], harness := (true, "9ace7ea82baa59a45e8fe29b46b7508d25bc1db9cd9913f9b1e2564ba80fcb15"), looks := false }, kinds := [], alts := [], laidByText := true, laidKinds := [.data, .pinned], laidTests := true, laidLooks := .later }
def FnExactTabTextCardSaid : Prop := Claim7.holds Tryd.pinned (.plain (OpenSpec.ofChange fnExactTabTextSpec)) fnExactTabTextCard

/-- THE TIED CARD OF 'laws.FnExactMarginOf'. -/
def fnExactMarginOfCard : Claim7 := { stood := { row := fnExactMarginOfRow, standIns := [], harness := (true, "9ace7ea82baa59a45e8fe29b46b7508d25bc1db9cd9913f9b1e2564ba80fcb15"), looks := false }, kinds := [], alts := [], laidByText := true, laidKinds := [.data, .pinned], laidTests := true, laidLooks := .later }
def FnExactMarginOfCardSaid : Prop := Claim7.holds Tryd.pinned (.plain (OpenSpec.ofChange fnExactMarginOfSpec)) fnExactMarginOfCard

/-- THE TIED CARD OF 'laws.FnExactDedentLines'. -/
def fnExactDedentLinesCard : Claim7 := { stood := { row := fnExactDedentLinesRow, standIns := [], harness := (true, "9ace7ea82baa59a45e8fe29b46b7508d25bc1db9cd9913f9b1e2564ba80fcb15"), looks := false }, kinds := [], alts := [], laidByText := true, laidKinds := [.data, .pinned], laidTests := true, laidLooks := .later }
def FnExactDedentLinesCardSaid : Prop := Claim7.holds Tryd.pinned (.plain (OpenSpec.ofChange fnExactDedentLinesSpec)) fnExactDedentLinesCard

/-- THE TIED CARD OF 'laws.FnExactIndentLines'. -/
def fnExactIndentLinesCard : Claim7 := { stood := { row := fnExactIndentLinesRow, standIns := [], harness := (true, "9ace7ea82baa59a45e8fe29b46b7508d25bc1db9cd9913f9b1e2564ba80fcb15"), looks := false }, kinds := [], alts := [], laidByText := true, laidKinds := [.data, .pinned], laidTests := true, laidLooks := .later }
def FnExactIndentLinesCardSaid : Prop := Claim7.holds Tryd.pinned (.plain (OpenSpec.ofChange fnExactIndentLinesSpec)) fnExactIndentLinesCard

/-- THE SECOND FORM's CARD OF 'laws.FnTabText'. -/
def fnTabTextUptoCard : Claim7 := { stood := { row := fnTabTextUptoRow, standIns := [], harness := (true, "9ace7ea82baa59a45e8fe29b46b7508d25bc1db9cd9913f9b1e2564ba80fcb15"), looks := false }, kinds := [], alts := [], laidByText := true, laidKinds := [.data, .pinned], laidTests := true, laidLooks := .later }
def FnTabTextUptoCardSaid : Prop := Claim7.holds Tryd.pinned (.plain (OpenSpec.upto fnTabTextSpec)) fnTabTextUptoCard

/-- THE SECOND FORM's CARD OF 'laws.FnMarginOf'. -/
def fnMarginOfUptoCard : Claim7 := { stood := { row := fnMarginOfUptoRow, standIns := [], harness := (true, "9ace7ea82baa59a45e8fe29b46b7508d25bc1db9cd9913f9b1e2564ba80fcb15"), looks := false }, kinds := [], alts := [], laidByText := true, laidKinds := [.data, .pinned], laidTests := true, laidLooks := .later }
def FnMarginOfUptoCardSaid : Prop := Claim7.holds Tryd.pinned (.plain (OpenSpec.upto fnMarginOfSpec)) fnMarginOfUptoCard

/-- THE SECOND FORM's CARD OF 'laws.FnDedentLines'. -/
def fnDedentLinesUptoCard : Claim7 := { stood := { row := fnDedentLinesUptoRow, standIns := [], harness := (true, "9ace7ea82baa59a45e8fe29b46b7508d25bc1db9cd9913f9b1e2564ba80fcb15"), looks := false }, kinds := [], alts := [], laidByText := true, laidKinds := [.data, .pinned], laidTests := true, laidLooks := .later }
def FnDedentLinesUptoCardSaid : Prop := Claim7.holds Tryd.pinned (.plain (OpenSpec.upto fnDedentLinesSpec)) fnDedentLinesUptoCard

/-- THE SECOND FORM's CARD OF 'laws.FnIndentLines'. -/
def fnIndentLinesUptoCard : Claim7 := { stood := { row := fnIndentLinesUptoRow, standIns := [], harness := (true, "9ace7ea82baa59a45e8fe29b46b7508d25bc1db9cd9913f9b1e2564ba80fcb15"), looks := false }, kinds := [], alts := [], laidByText := true, laidKinds := [.data, .pinned], laidTests := true, laidLooks := .later }
def FnIndentLinesUptoCardSaid : Prop := Claim7.holds Tryd.pinned (.plain (OpenSpec.upto fnIndentLinesSpec)) fnIndentLinesUptoCard

/-- THE SECOND FORM's CARD OF 'laws.FnExactTabText'. -/
def fnExactTabTextUptoCard : Claim7 := { stood := { row := fnExactTabTextUptoRow, standIns := [], harness := (true, "9ace7ea82baa59a45e8fe29b46b7508d25bc1db9cd9913f9b1e2564ba80fcb15"), looks := false }, kinds := [], alts := [], laidByText := true, laidKinds := [.data, .pinned], laidTests := true, laidLooks := .later }
def FnExactTabTextUptoCardSaid : Prop := Claim7.holds Tryd.pinned (.plain (OpenSpec.upto fnExactTabTextSpec)) fnExactTabTextUptoCard

/-- THE SECOND FORM's CARD OF 'laws.FnExactMarginOf'. -/
def fnExactMarginOfUptoCard : Claim7 := { stood := { row := fnExactMarginOfUptoRow, standIns := [], harness := (true, "9ace7ea82baa59a45e8fe29b46b7508d25bc1db9cd9913f9b1e2564ba80fcb15"), looks := false }, kinds := [], alts := [], laidByText := true, laidKinds := [.data, .pinned], laidTests := true, laidLooks := .later }
def FnExactMarginOfUptoCardSaid : Prop := Claim7.holds Tryd.pinned (.plain (OpenSpec.upto fnExactMarginOfSpec)) fnExactMarginOfUptoCard

/-- THE SECOND FORM's CARD OF 'laws.FnExactDedentLines'. -/
def fnExactDedentLinesUptoCard : Claim7 := { stood := { row := fnExactDedentLinesUptoRow, standIns := [], harness := (true, "9ace7ea82baa59a45e8fe29b46b7508d25bc1db9cd9913f9b1e2564ba80fcb15"), looks := false }, kinds := [], alts := [], laidByText := true, laidKinds := [.data, .pinned], laidTests := true, laidLooks := .later }
def FnExactDedentLinesUptoCardSaid : Prop := Claim7.holds Tryd.pinned (.plain (OpenSpec.upto fnExactDedentLinesSpec)) fnExactDedentLinesUptoCard

/-- THE SECOND FORM's CARD OF 'laws.FnExactIndentLines'. -/
def fnExactIndentLinesUptoCard : Claim7 := { stood := { row := fnExactIndentLinesUptoRow, standIns := [], harness := (true, "9ace7ea82baa59a45e8fe29b46b7508d25bc1db9cd9913f9b1e2564ba80fcb15"), looks := false }, kinds := [], alts := [], laidByText := true, laidKinds := [.data, .pinned], laidTests := true, laidLooks := .later }
def FnExactIndentLinesUptoCardSaid : Prop := Claim7.holds Tryd.pinned (.plain (OpenSpec.upto fnExactIndentLinesSpec)) fnExactIndentLinesUptoCard
end Rows
end Go.Proofs.YtcghlhjlfppllaaDoor
