/-
  DERIVED. GIVEN WITH THE SEED: THE CARDS: each row of YtobnenjhmkbdoaaDoorRows.lean that lists a variable, with what it lists TIED to the program's text (the seventh form; the later family's looks); each row that meets fmt, with fmt's text TOLD by the authors' own Lean function (tested against real Go, not proved from fmt's source: count such statements apart). THE CARD IS WHAT COUNTS. Prove the row's statement (the work); the ties are given (YtobnenjhmkbdoaaDoorTie.lean); close each card by the builder's one call (the guide's Derived/Test/ToyasCard.lean, 'card_holds'). Laid BY PROGRAM, IN A SANDBOX (cutbox-door.mjs). By AI agents, Wed Nov 11 2026. No macro, syntax, notation, axiom, sorry.
-/
import Derived.Test.YtobnenjhmkbdoaaDoorRows
import GoSem.ClaimSeven
namespace Go.Proofs.YtobnenjhmkbdoaaDoor
namespace Rows

/-- THE TIED CARD OF 'pentimentolaw07.RowTells'. -/
def rowTellsCard : Claim7 := { stood := { row := rowTellsRow, standIns := [], harness := (true, "8add06ccaf5358d33a7937d337d9ecfcb28e3a4d7588a11ad6fec504944797f2"), looks := false }, kinds := [], alts := [], laidByText := true, laidKinds := [.data, .pinned], laidTests := true, laidLooks := .later }
def RowTellsCardSaid : Prop := Claim7.holds Tryd.pinned (.plain (OpenSpec.ofChange rowTellsSpec)) rowTellsCard

/-- THE TIED CARD OF 'pentimentolaw07.RowReads'. -/
def rowReadsCard : Claim7 := { stood := { row := rowReadsRow, standIns := [], harness := (true, "8add06ccaf5358d33a7937d337d9ecfcb28e3a4d7588a11ad6fec504944797f2"), looks := false }, kinds := [], alts := [], laidByText := true, laidKinds := [.data, .pinned], laidTests := true, laidLooks := .later }
def RowReadsCardSaid : Prop := Claim7.holds Tryd.pinned (.plain (OpenSpec.ofChange rowReadsSpec)) rowReadsCard

/-- THE TIED CARD OF 'pentimentolaw07.RowBack'. -/
def rowBackCard : Claim7 := { stood := { row := rowBackRow, standIns := [], harness := (true, "8add06ccaf5358d33a7937d337d9ecfcb28e3a4d7588a11ad6fec504944797f2"), looks := false }, kinds := [], alts := [], laidByText := true, laidKinds := [.data, .pinned], laidTests := true, laidLooks := .later }
def RowBackCardSaid : Prop := Claim7.holds Tryd.pinned (.plain (OpenSpec.ofChange rowBackSpec)) rowBackCard

/-- THE TIED CARD OF 'pentimentolaw07.RowPads'. -/
def rowPadsCard : Claim7 := { stood := { row := rowPadsRow, standIns := [], harness := (true, "8add06ccaf5358d33a7937d337d9ecfcb28e3a4d7588a11ad6fec504944797f2"), looks := false }, kinds := [], alts := [], laidByText := true, laidKinds := [.data, .pinned], laidTests := true, laidLooks := .later }
def RowPadsCardSaid : Prop := Claim7.holds Tryd.pinned (.plain (OpenSpec.ofChange rowPadsSpec)) rowPadsCard

/-- THE TIED CARD OF 'pentimentolaw07.RowEntries'. -/
def rowEntriesCard : Claim7 := { stood := { row := rowEntriesRow, standIns := [], harness := (true, "8add06ccaf5358d33a7937d337d9ecfcb28e3a4d7588a11ad6fec504944797f2"), looks := false }, kinds := [], alts := [], laidByText := true, laidKinds := [.data, .pinned], laidTests := true, laidLooks := .later }
def RowEntriesCardSaid : Prop := Claim7.holds Tryd.pinned (.plain (OpenSpec.ofChange rowEntriesSpec)) rowEntriesCard

/-- THE SECOND FORM's CARD OF 'pentimentolaw07.RowTells'. -/
def rowTellsUptoCard : Claim7 := { stood := { row := rowTellsUptoRow, standIns := [], harness := (true, "8add06ccaf5358d33a7937d337d9ecfcb28e3a4d7588a11ad6fec504944797f2"), looks := false }, kinds := [], alts := [], laidByText := true, laidKinds := [.data, .pinned], laidTests := true, laidLooks := .later }
def RowTellsUptoCardSaid : Prop := Claim7.holds Tryd.pinned (.plain (OpenSpec.upto rowTellsSpec)) rowTellsUptoCard

/-- THE SECOND FORM's CARD OF 'pentimentolaw07.RowReads'. -/
def rowReadsUptoCard : Claim7 := { stood := { row := rowReadsUptoRow, standIns := [], harness := (true, "8add06ccaf5358d33a7937d337d9ecfcb28e3a4d7588a11ad6fec504944797f2"), looks := false }, kinds := [], alts := [], laidByText := true, laidKinds := [.data, .pinned], laidTests := true, laidLooks := .later }
def RowReadsUptoCardSaid : Prop := Claim7.holds Tryd.pinned (.plain (OpenSpec.upto rowReadsSpec)) rowReadsUptoCard

/-- THE SECOND FORM's CARD OF 'pentimentolaw07.RowBack'. -/
def rowBackUptoCard : Claim7 := { stood := { row := rowBackUptoRow, standIns := [], harness := (true, "8add06ccaf5358d33a7937d337d9ecfcb28e3a4d7588a11ad6fec504944797f2"), looks := false }, kinds := [], alts := [], laidByText := true, laidKinds := [.data, .pinned], laidTests := true, laidLooks := .later }
def RowBackUptoCardSaid : Prop := Claim7.holds Tryd.pinned (.plain (OpenSpec.upto rowBackSpec)) rowBackUptoCard

/-- THE SECOND FORM's CARD OF 'pentimentolaw07.RowPads'. -/
def rowPadsUptoCard : Claim7 := { stood := { row := rowPadsUptoRow, standIns := [], harness := (true, "8add06ccaf5358d33a7937d337d9ecfcb28e3a4d7588a11ad6fec504944797f2"), looks := false }, kinds := [], alts := [], laidByText := true, laidKinds := [.data, .pinned], laidTests := true, laidLooks := .later }
def RowPadsUptoCardSaid : Prop := Claim7.holds Tryd.pinned (.plain (OpenSpec.upto rowPadsSpec)) rowPadsUptoCard

/-- THE SECOND FORM's CARD OF 'pentimentolaw07.RowEntries'. -/
def rowEntriesUptoCard : Claim7 := { stood := { row := rowEntriesUptoRow, standIns := [], harness := (true, "8add06ccaf5358d33a7937d337d9ecfcb28e3a4d7588a11ad6fec504944797f2"), looks := false }, kinds := [], alts := [], laidByText := true, laidKinds := [.data, .pinned], laidTests := true, laidLooks := .later }
def RowEntriesUptoCardSaid : Prop := Claim7.holds Tryd.pinned (.plain (OpenSpec.upto rowEntriesSpec)) rowEntriesUptoCard
end Rows
end Go.Proofs.YtobnenjhmkbdoaaDoor
