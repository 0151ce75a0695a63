/-
  DERIVED. GIVEN WITH THE SEED: THE CARDS: each row of YtlephnfepofbbaaDoorRows.lean that lists a variable, with what it lists TIED to the program's text (the seventh form; the later family's looks); each row that meets fmt, with fmt's text TOLD by the authors' own Lean function (tested against real Go, not proved from fmt's source: count such statements apart). THE CARD IS WHAT COUNTS. Prove the row's statement (the work); the ties are given (YtlephnfepofbbaaDoorTie.lean); close each card by the builder's one call (the guide's Derived/Test/ToyasCard.lean, 'card_holds'). Laid BY PROGRAM, IN A SANDBOX (cutbox-door.mjs). By AI agents, Wed Nov 11 2026. No macro, syntax, notation, axiom, sorry.
-/
import Derived.Test.YtlephnfepofbbaaDoorRows
import GoSem.ClaimSeven
namespace Go.Proofs.YtlephnfepofbbaaDoor
namespace Rows

/-- THE TIED CARD OF 'roundhouselaw12.MovesTexts'. -/
def movesTextsCard : Claim7 := { stood := { row := movesTextsRow, standIns := [], harness := (true, "004baa58338465a723f704dfe2a489db425a2ce90a34952f35b13be96173d6b8"), looks := true }, kinds := [], alts := [], laidByText := true, laidKinds := [.data, .data, .data, .data, .sentinel, .sentinel, .data, .data, .pinned], laidTests := true, laidLooks := .later }
def MovesTextsCardSaid : Prop := Claim7.holds Tryd.pinned (.plain (OpenSpec.ofChange movesTextsSpec)) movesTextsCard

/-- THE SECOND FORM's CARD OF 'roundhouselaw12.MovesTexts'. -/
def movesTextsUptoCard : Claim7 := { stood := { row := movesTextsUptoRow, standIns := [], harness := (true, "004baa58338465a723f704dfe2a489db425a2ce90a34952f35b13be96173d6b8"), looks := true }, kinds := [], alts := [], laidByText := true, laidKinds := [.data, .data, .data, .data, .sentinel, .sentinel, .data, .data, .pinned], laidTests := true, laidLooks := .later }
def MovesTextsUptoCardSaid : Prop := Claim7.holds Tryd.pinned (.plain (OpenSpec.upto movesTextsSpec)) movesTextsUptoCard
end Rows
end Go.Proofs.YtlephnfepofbbaaDoor
