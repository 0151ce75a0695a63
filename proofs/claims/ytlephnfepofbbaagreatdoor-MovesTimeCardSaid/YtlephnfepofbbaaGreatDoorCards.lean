/-
  DERIVED. GIVEN WITH THE SEED: THE CARDS: each row of YtlephnfepofbbaaGreatDoorRows.lean that lists a variable, with what it lists TIED to the program's text (the seventh form; the later family's looks); each row that meets fmt, with fmt's text TOLD by the authors' own Lean function (tested against real Go, not proved from fmt's source: count such statements apart). THE CARD IS WHAT COUNTS. Prove the row's statement (the work); the ties are given (YtlephnfepofbbaaGreatDoorTie.lean); close each card by the builder's one call (the guide's Derived/Test/ToyasCard.lean, 'card_holds'). Laid BY PROGRAM, IN A SANDBOX (cutbox-door.mjs). By AI agents, Wed Nov 11 2026. No macro, syntax, notation, axiom, sorry.
-/
import Derived.Test.YtlephnfepofbbaaGreatDoorRows
import GoSem.ClaimSeven
namespace Go.Proofs.YtlephnfepofbbaaGreatDoor
namespace Rows

/-- THE TIED CARD OF 'roundhouselaw12.MovesNames'. -/
def movesNamesCard : Claim7 := { stood := { row := movesNamesRow, standIns := [], harness := (true, "69a9d187c9613cc5c9403a8933b96b1a7e8b912812514825e8f6a95dad65b526"), looks := true }, kinds := [], alts := [], laidByText := true, laidKinds := [.data, .data, .data, .data, .sentinel, .sentinel, .data, .data, .pinned], laidTests := true, laidLooks := .later }
def MovesNamesCardSaid : Prop := Claim7.holds Tryz.pinned (.plain (OpenSpec.ofChange movesNamesSpec)) movesNamesCard

/-- THE TIED CARD OF 'roundhouselaw12.MovesBack'. -/
def movesBackCard : Claim7 := { stood := { row := movesBackRow, standIns := [], harness := (true, "69a9d187c9613cc5c9403a8933b96b1a7e8b912812514825e8f6a95dad65b526"), looks := true }, kinds := [], alts := [], laidByText := true, laidKinds := [.data, .data, .data, .data, .sentinel, .sentinel, .data, .data, .pinned], laidTests := true, laidLooks := .later }
def MovesBackCardSaid : Prop := Claim7.holds Tryz.pinned (.plain (OpenSpec.ofChange movesBackSpec)) movesBackCard

/-- THE TIED CARD OF 'roundhouselaw12.MovesTime'. -/
def movesTimeCard : Claim7 := { stood := { row := movesTimeRow, standIns := [], harness := (true, "69a9d187c9613cc5c9403a8933b96b1a7e8b912812514825e8f6a95dad65b526"), looks := true }, kinds := [], alts := [], laidByText := true, laidKinds := [.data, .data, .data, .data, .data, .data], laidTests := true, laidLooks := .later }
def MovesTimeCardSaid : Prop := Claim7.holds Tryz.pinned (.plain (OpenSpec.ofChange movesTimeSpec)) movesTimeCard

/-- THE SECOND FORM's CARD OF 'roundhouselaw12.MovesNames'. -/
def movesNamesUptoCard : Claim7 := { stood := { row := movesNamesUptoRow, standIns := [], harness := (true, "69a9d187c9613cc5c9403a8933b96b1a7e8b912812514825e8f6a95dad65b526"), looks := true }, kinds := [], alts := [], laidByText := true, laidKinds := [.data, .data, .data, .data, .sentinel, .sentinel, .data, .data, .pinned], laidTests := true, laidLooks := .later }
def MovesNamesUptoCardSaid : Prop := Claim7.holds Tryz.pinned (.plain (OpenSpec.upto movesNamesSpec)) movesNamesUptoCard

/-- THE SECOND FORM's CARD OF 'roundhouselaw12.MovesBack'. -/
def movesBackUptoCard : Claim7 := { stood := { row := movesBackUptoRow, standIns := [], harness := (true, "69a9d187c9613cc5c9403a8933b96b1a7e8b912812514825e8f6a95dad65b526"), looks := true }, kinds := [], alts := [], laidByText := true, laidKinds := [.data, .data, .data, .data, .sentinel, .sentinel, .data, .data, .pinned], laidTests := true, laidLooks := .later }
def MovesBackUptoCardSaid : Prop := Claim7.holds Tryz.pinned (.plain (OpenSpec.upto movesBackSpec)) movesBackUptoCard

/-- THE SECOND FORM's CARD OF 'roundhouselaw12.MovesTime'. -/
def movesTimeUptoCard : Claim7 := { stood := { row := movesTimeUptoRow, standIns := [], harness := (true, "69a9d187c9613cc5c9403a8933b96b1a7e8b912812514825e8f6a95dad65b526"), looks := true }, kinds := [], alts := [], laidByText := true, laidKinds := [.data, .data, .data, .data, .data, .data], laidTests := true, laidLooks := .later }
def MovesTimeUptoCardSaid : Prop := Claim7.holds Tryz.pinned (.plain (OpenSpec.upto movesTimeSpec)) movesTimeUptoCard
end Rows
end Go.Proofs.YtlephnfepofbbaaGreatDoor
