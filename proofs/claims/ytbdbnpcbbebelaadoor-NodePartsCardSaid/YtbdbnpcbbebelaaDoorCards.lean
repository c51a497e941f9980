/-
  DERIVED. GIVEN WITH THE SEED: THE CARDS: each row of YtbdbnpcbbebelaaDoorRows.lean that lists a variable, with what it lists TIED to the program's text (the seventh form; the later family's looks); each row that meets fmt, with fmt's text TOLD by the authors' own Lean function (tested against real Go, not proved from fmt's source: count such statements apart). THE CARD IS WHAT COUNTS. Prove the row's statement (the work); the ties are given (YtbdbnpcbbebelaaDoorTie.lean); close each card by the builder's one call (the guide's Derived/Test/ToyasCard.lean, 'card_holds'). Laid BY PROGRAM, IN A SANDBOX (cutbox-door.mjs). By AI agents, Wed Nov 11 2026. No macro, syntax, notation, axiom, sorry.
-/
import Derived.Test.YtbdbnpcbbebelaaDoorRows
import GoSem.ClaimSeven
namespace Go.Proofs.YtbdbnpcbbebelaaDoor
namespace Rows

/-- THE TIED CARD OF 'pentimentolaw08.NodeTells'. -/
def nodeTellsCard : Claim7 := { stood := { row := nodeTellsRow, standIns := [], harness := (true, "9c30cc62add09d0afc4c3009e003810a582d1cedaa45d5e55a058a3d99d891fe"), looks := false }, kinds := [], alts := [], laidByText := true, laidKinds := [.data, .pinned], laidTests := true, laidLooks := .later }
def NodeTellsCardSaid : Prop := Claim7.holds Tryd.pinned (.plain (OpenSpec.ofChange nodeTellsSpec)) nodeTellsCard

/-- THE TIED CARD OF 'pentimentolaw08.NodeWith'. -/
def nodeWithCard : Claim7 := { stood := { row := nodeWithRow, standIns := [], harness := (true, "9c30cc62add09d0afc4c3009e003810a582d1cedaa45d5e55a058a3d99d891fe"), looks := false }, kinds := [], alts := [], laidByText := true, laidKinds := [.data, .pinned], laidTests := true, laidLooks := .later }
def NodeWithCardSaid : Prop := Claim7.holds Tryd.pinned (.plain (OpenSpec.ofChange nodeWithSpec)) nodeWithCard

/-- THE TIED CARD OF 'pentimentolaw08.NodeSplits'. -/
def nodeSplitsCard : Claim7 := { stood := { row := nodeSplitsRow, standIns := [], harness := (true, "9c30cc62add09d0afc4c3009e003810a582d1cedaa45d5e55a058a3d99d891fe"), looks := false }, kinds := [], alts := [], laidByText := true, laidKinds := [.data, .pinned], laidTests := true, laidLooks := .later }
def NodeSplitsCardSaid : Prop := Claim7.holds Tryd.pinned (.plain (OpenSpec.ofChange nodeSplitsSpec)) nodeSplitsCard

/-- THE TIED CARD OF 'pentimentolaw08.NodeParts'. -/
def nodePartsCard : Claim7 := { stood := { row := nodePartsRow, standIns := [], harness := (true, "9c30cc62add09d0afc4c3009e003810a582d1cedaa45d5e55a058a3d99d891fe"), looks := false }, kinds := [], alts := [], laidByText := true, laidKinds := [.data, .pinned], laidTests := true, laidLooks := .later }
def NodePartsCardSaid : Prop := Claim7.holds Tryd.pinned (.plain (OpenSpec.ofChange nodePartsSpec)) nodePartsCard

/-- THE TIED CARD OF 'pentimentolaw08.NodeFinds'. -/
def nodeFindsCard : Claim7 := { stood := { row := nodeFindsRow, standIns := [], harness := (true, "9c30cc62add09d0afc4c3009e003810a582d1cedaa45d5e55a058a3d99d891fe"), looks := false }, kinds := [], alts := [], laidByText := true, laidKinds := [.data, .pinned], laidTests := true, laidLooks := .later }
def NodeFindsCardSaid : Prop := Claim7.holds Tryd.pinned (.plain (OpenSpec.ofChange nodeFindsSpec)) nodeFindsCard

/-- THE SECOND FORM's CARD OF 'pentimentolaw08.NodeTells'. -/
def nodeTellsUptoCard : Claim7 := { stood := { row := nodeTellsUptoRow, standIns := [], harness := (true, "9c30cc62add09d0afc4c3009e003810a582d1cedaa45d5e55a058a3d99d891fe"), looks := false }, kinds := [], alts := [], laidByText := true, laidKinds := [.data, .pinned], laidTests := true, laidLooks := .later }
def NodeTellsUptoCardSaid : Prop := Claim7.holds Tryd.pinned (.plain (OpenSpec.upto nodeTellsSpec)) nodeTellsUptoCard

/-- THE SECOND FORM's CARD OF 'pentimentolaw08.NodeWith'. -/
def nodeWithUptoCard : Claim7 := { stood := { row := nodeWithUptoRow, standIns := [], harness := (true, "9c30cc62add09d0afc4c3009e003810a582d1cedaa45d5e55a058a3d99d891fe"), looks := false }, kinds := [], alts := [], laidByText := true, laidKinds := [.data, .pinned], laidTests := true, laidLooks := .later }
def NodeWithUptoCardSaid : Prop := Claim7.holds Tryd.pinned (.plain (OpenSpec.upto nodeWithSpec)) nodeWithUptoCard

/-- THE SECOND FORM's CARD OF 'pentimentolaw08.NodeSplits'. -/
def nodeSplitsUptoCard : Claim7 := { stood := { row := nodeSplitsUptoRow, standIns := [], harness := (true, "9c30cc62add09d0afc4c3009e003810a582d1cedaa45d5e55a058a3d99d891fe"), looks := false }, kinds := [], alts := [], laidByText := true, laidKinds := [.data, .pinned], laidTests := true, laidLooks := .later }
def NodeSplitsUptoCardSaid : Prop := Claim7.holds Tryd.pinned (.plain (OpenSpec.upto nodeSplitsSpec)) nodeSplitsUptoCard

/-- THE SECOND FORM's CARD OF 'pentimentolaw08.NodeParts'. -/
def nodePartsUptoCard : Claim7 := { stood := { row := nodePartsUptoRow, standIns := [], harness := (true, "9c30cc62add09d0afc4c3009e003810a582d1cedaa45d5e55a058a3d99d891fe"), looks := false }, kinds := [], alts := [], laidByText := true, laidKinds := [.data, .pinned], laidTests := true, laidLooks := .later }
def NodePartsUptoCardSaid : Prop := Claim7.holds Tryd.pinned (.plain (OpenSpec.upto nodePartsSpec)) nodePartsUptoCard

/-- THE SECOND FORM's CARD OF 'pentimentolaw08.NodeFinds'. -/
def nodeFindsUptoCard : Claim7 := { stood := { row := nodeFindsUptoRow, standIns := [], harness := (true, "9c30cc62add09d0afc4c3009e003810a582d1cedaa45d5e55a058a3d99d891fe"), looks := false }, kinds := [], alts := [], laidByText := true, laidKinds := [.data, .pinned], laidTests := true, laidLooks := .later }
def NodeFindsUptoCardSaid : Prop := Claim7.holds Tryd.pinned (.plain (OpenSpec.upto nodeFindsSpec)) nodeFindsUptoCard
end Rows
end Go.Proofs.YtbdbnpcbbebelaaDoor
