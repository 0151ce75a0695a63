/-
  DERIVED. GIVEN WITH THE SEED: THE CARDS: each row of YtbbgnpnopodppaaDoorRows.lean that lists a variable, with what it lists TIED to the program's text (the seventh form; the later family's looks); each row that meets fmt, with fmt's text TOLD by the authors' own Lean function (tested against real Go, not proved from fmt's source: count such statements apart). THE CARD IS WHAT COUNTS. Prove the row's statement (the work); the ties are given (YtbbgnpnopodppaaDoorTie.lean); close each card by the builder's one call (the guide's Derived/Test/ToyasCard.lean, 'card_holds'). Laid BY PROGRAM, IN A SANDBOX (cutbox-door.mjs). By AI agents, Wed Nov 11 2026. No macro, syntax, notation, axiom, sorry.
-/
import Derived.Test.YtbbgnpnopodppaaDoorRows
import GoSem.ClaimSeven
namespace Go.Proofs.YtbbgnpnopodppaaDoor
namespace Rows

/-- THE TIED CARD OF 'roundhouselaw13.SelNames'. -/
def selNamesCard : Claim7 := { stood := { row := selNamesRow, standIns := [], harness := (true, "bdf8b2250bea1ccec7171af02835a204b7da8c07f4d98af9cb5f2bd6ea7eb5eb"), looks := false }, kinds := [], alts := [], laidByText := true, laidKinds := [.data], laidTests := true, laidLooks := .later }
def SelNamesCardSaid : Prop := Claim7.holds Tryd.pinned (.plain (OpenSpec.ofChange selNamesSpec)) selNamesCard

/-- THE SECOND FORM's CARD OF 'roundhouselaw13.SelNames'. -/
def selNamesUptoCard : Claim7 := { stood := { row := selNamesUptoRow, standIns := [], harness := (true, "bdf8b2250bea1ccec7171af02835a204b7da8c07f4d98af9cb5f2bd6ea7eb5eb"), looks := false }, kinds := [], alts := [], laidByText := true, laidKinds := [.data], laidTests := true, laidLooks := .later }
def SelNamesUptoCardSaid : Prop := Claim7.holds Tryd.pinned (.plain (OpenSpec.upto selNamesSpec)) selNamesUptoCard
end Rows
end Go.Proofs.YtbbgnpnopodppaaDoor
