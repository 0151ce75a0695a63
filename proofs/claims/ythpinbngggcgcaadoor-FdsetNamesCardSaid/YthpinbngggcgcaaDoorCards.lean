/-
  DERIVED. GIVEN WITH THE SEED: THE CARDS: each row of YthpinbngggcgcaaDoorRows.lean that lists a variable, with what it lists TIED to the program's text (the seventh form; the later family's looks); each row that meets fmt, with fmt's text TOLD by the authors' own Lean function (tested against real Go, not proved from fmt's source: count such statements apart). THE CARD IS WHAT COUNTS. Prove the row's statement (the work); the ties are given (YthpinbngggcgcaaDoorTie.lean); close each card by the builder's one call (the guide's Derived/Test/ToyasCard.lean, 'card_holds'). Laid BY PROGRAM, IN A SANDBOX (cutbox-door.mjs). By AI agents, Wed Nov 11 2026. No macro, syntax, notation, axiom, sorry.
-/
import Derived.Test.YthpinbngggcgcaaDoorRows
import GoSem.ClaimSeven
namespace Go.Proofs.YthpinbngggcgcaaDoor
namespace Rows

/-- THE TIED CARD OF 'roundhouselaw01.FdsetOf'. -/
def fdsetOfCard : Claim7 := { stood := { row := fdsetOfRow, standIns := [], harness := (true, "f026ae19451c01c91754569ba7e054afca9053530632b9cd3d36cff5e1db7708"), looks := true }, kinds := [], alts := [], laidByText := true, laidKinds := [.data], laidTests := true, laidLooks := .later }
def FdsetOfCardSaid : Prop := Claim7.holds Tryd.pinned (.plain (OpenSpec.ofChange fdsetOfSpec)) fdsetOfCard

/-- THE TIED CARD OF 'roundhouselaw01.FdsetTexts'. -/
def fdsetTextsCard : Claim7 := { stood := { row := fdsetTextsRow, standIns := [], harness := (true, "f026ae19451c01c91754569ba7e054afca9053530632b9cd3d36cff5e1db7708"), looks := true }, kinds := [], alts := [], laidByText := true, laidKinds := [.data, .data, .data, .data, .sentinel, .sentinel, .pinned], laidTests := true, laidLooks := .later }
def FdsetTextsCardSaid : Prop := Claim7.holds Tryd.pinned (.plain (OpenSpec.ofChange fdsetTextsSpec)) fdsetTextsCard

/-- THE TIED CARD OF 'roundhouselaw01.FdsetNames'. -/
def fdsetNamesCard : Claim7 := { stood := { row := fdsetNamesRow, standIns := [], harness := (true, "f026ae19451c01c91754569ba7e054afca9053530632b9cd3d36cff5e1db7708"), looks := true }, kinds := [], alts := [], laidByText := true, laidKinds := [.data, .data, .data, .data, .sentinel, .sentinel, .pinned], laidTests := true, laidLooks := .later }
def FdsetNamesCardSaid : Prop := Claim7.holds Tryd.pinned (.plain (OpenSpec.ofChange fdsetNamesSpec)) fdsetNamesCard

/-- THE TIED CARD OF 'roundhouselaw01.FdsetBack'. -/
def fdsetBackCard : Claim7 := { stood := { row := fdsetBackRow, standIns := [], harness := (true, "f026ae19451c01c91754569ba7e054afca9053530632b9cd3d36cff5e1db7708"), looks := true }, kinds := [], alts := [], laidByText := true, laidKinds := [.data, .data, .data, .data, .sentinel, .sentinel, .pinned], laidTests := true, laidLooks := .later }
def FdsetBackCardSaid : Prop := Claim7.holds Tryd.pinned (.plain (OpenSpec.ofChange fdsetBackSpec)) fdsetBackCard

/-- THE TIED CARD OF 'roundhouselaw01.FdsetParts'. -/
def fdsetPartsCard : Claim7 := { stood := { row := fdsetPartsRow, standIns := [], harness := (true, "f026ae19451c01c91754569ba7e054afca9053530632b9cd3d36cff5e1db7708"), looks := true }, kinds := [], alts := [], laidByText := true, laidKinds := [.data, .data, .data], laidTests := true, laidLooks := .later }
def FdsetPartsCardSaid : Prop := Claim7.holds Tryd.pinned (.plain (OpenSpec.ofChange fdsetPartsSpec)) fdsetPartsCard

/-- THE TIED CARD OF 'roundhouselaw01.FdsetSteps'. -/
def fdsetStepsCard : Claim7 := { stood := { row := fdsetStepsRow, standIns := [], harness := (true, "f026ae19451c01c91754569ba7e054afca9053530632b9cd3d36cff5e1db7708"), looks := true }, kinds := [], alts := [], laidByText := true, laidKinds := [.data, .data, .data], laidTests := true, laidLooks := .later }
def FdsetStepsCardSaid : Prop := Claim7.holds Tryd.pinned (.plain (OpenSpec.ofChange fdsetStepsSpec)) fdsetStepsCard

/-- THE TIED CARD OF 'roundhouselaw01.FdsetCounts'. -/
def fdsetCountsCard : Claim7 := { stood := { row := fdsetCountsRow, standIns := [], harness := (true, "f026ae19451c01c91754569ba7e054afca9053530632b9cd3d36cff5e1db7708"), looks := true }, kinds := [], alts := [], laidByText := true, laidKinds := [.data, .data, .data], laidTests := true, laidLooks := .later }
def FdsetCountsCardSaid : Prop := Claim7.holds Tryd.pinned (.plain (OpenSpec.ofChange fdsetCountsSpec)) fdsetCountsCard

/-- THE TIED CARD OF 'roundhouselaw01.FdsetOne'. -/
def fdsetOneCard : Claim7 := { stood := { row := fdsetOneRow, standIns := [], harness := (true, "f026ae19451c01c91754569ba7e054afca9053530632b9cd3d36cff5e1db7708"), looks := true }, kinds := [], alts := [], laidByText := true, laidKinds := [.data, .data, .data], laidTests := true, laidLooks := .later }
def FdsetOneCardSaid : Prop := Claim7.holds Tryd.pinned (.plain (OpenSpec.ofChange fdsetOneSpec)) fdsetOneCard

/-- THE SECOND FORM's CARD OF 'roundhouselaw01.FdsetOf'. -/
def fdsetOfUptoCard : Claim7 := { stood := { row := fdsetOfUptoRow, standIns := [], harness := (true, "f026ae19451c01c91754569ba7e054afca9053530632b9cd3d36cff5e1db7708"), looks := true }, kinds := [], alts := [], laidByText := true, laidKinds := [.data], laidTests := true, laidLooks := .later }
def FdsetOfUptoCardSaid : Prop := Claim7.holds Tryd.pinned (.plain (OpenSpec.upto fdsetOfSpec)) fdsetOfUptoCard

/-- THE SECOND FORM's CARD OF 'roundhouselaw01.FdsetTexts'. -/
def fdsetTextsUptoCard : Claim7 := { stood := { row := fdsetTextsUptoRow, standIns := [], harness := (true, "f026ae19451c01c91754569ba7e054afca9053530632b9cd3d36cff5e1db7708"), looks := true }, kinds := [], alts := [], laidByText := true, laidKinds := [.data, .data, .data, .data, .sentinel, .sentinel, .pinned], laidTests := true, laidLooks := .later }
def FdsetTextsUptoCardSaid : Prop := Claim7.holds Tryd.pinned (.plain (OpenSpec.upto fdsetTextsSpec)) fdsetTextsUptoCard

/-- THE SECOND FORM's CARD OF 'roundhouselaw01.FdsetNames'. -/
def fdsetNamesUptoCard : Claim7 := { stood := { row := fdsetNamesUptoRow, standIns := [], harness := (true, "f026ae19451c01c91754569ba7e054afca9053530632b9cd3d36cff5e1db7708"), looks := true }, kinds := [], alts := [], laidByText := true, laidKinds := [.data, .data, .data, .data, .sentinel, .sentinel, .pinned], laidTests := true, laidLooks := .later }
def FdsetNamesUptoCardSaid : Prop := Claim7.holds Tryd.pinned (.plain (OpenSpec.upto fdsetNamesSpec)) fdsetNamesUptoCard

/-- THE SECOND FORM's CARD OF 'roundhouselaw01.FdsetBack'. -/
def fdsetBackUptoCard : Claim7 := { stood := { row := fdsetBackUptoRow, standIns := [], harness := (true, "f026ae19451c01c91754569ba7e054afca9053530632b9cd3d36cff5e1db7708"), looks := true }, kinds := [], alts := [], laidByText := true, laidKinds := [.data, .data, .data, .data, .sentinel, .sentinel, .pinned], laidTests := true, laidLooks := .later }
def FdsetBackUptoCardSaid : Prop := Claim7.holds Tryd.pinned (.plain (OpenSpec.upto fdsetBackSpec)) fdsetBackUptoCard

/-- THE SECOND FORM's CARD OF 'roundhouselaw01.FdsetParts'. -/
def fdsetPartsUptoCard : Claim7 := { stood := { row := fdsetPartsUptoRow, standIns := [], harness := (true, "f026ae19451c01c91754569ba7e054afca9053530632b9cd3d36cff5e1db7708"), looks := true }, kinds := [], alts := [], laidByText := true, laidKinds := [.data, .data, .data], laidTests := true, laidLooks := .later }
def FdsetPartsUptoCardSaid : Prop := Claim7.holds Tryd.pinned (.plain (OpenSpec.upto fdsetPartsSpec)) fdsetPartsUptoCard

/-- THE SECOND FORM's CARD OF 'roundhouselaw01.FdsetSteps'. -/
def fdsetStepsUptoCard : Claim7 := { stood := { row := fdsetStepsUptoRow, standIns := [], harness := (true, "f026ae19451c01c91754569ba7e054afca9053530632b9cd3d36cff5e1db7708"), looks := true }, kinds := [], alts := [], laidByText := true, laidKinds := [.data, .data, .data], laidTests := true, laidLooks := .later }
def FdsetStepsUptoCardSaid : Prop := Claim7.holds Tryd.pinned (.plain (OpenSpec.upto fdsetStepsSpec)) fdsetStepsUptoCard

/-- THE SECOND FORM's CARD OF 'roundhouselaw01.FdsetCounts'. -/
def fdsetCountsUptoCard : Claim7 := { stood := { row := fdsetCountsUptoRow, standIns := [], harness := (true, "f026ae19451c01c91754569ba7e054afca9053530632b9cd3d36cff5e1db7708"), looks := true }, kinds := [], alts := [], laidByText := true, laidKinds := [.data, .data, .data], laidTests := true, laidLooks := .later }
def FdsetCountsUptoCardSaid : Prop := Claim7.holds Tryd.pinned (.plain (OpenSpec.upto fdsetCountsSpec)) fdsetCountsUptoCard

/-- THE SECOND FORM's CARD OF 'roundhouselaw01.FdsetOne'. -/
def fdsetOneUptoCard : Claim7 := { stood := { row := fdsetOneUptoRow, standIns := [], harness := (true, "f026ae19451c01c91754569ba7e054afca9053530632b9cd3d36cff5e1db7708"), looks := true }, kinds := [], alts := [], laidByText := true, laidKinds := [.data, .data, .data], laidTests := true, laidLooks := .later }
def FdsetOneUptoCardSaid : Prop := Claim7.holds Tryd.pinned (.plain (OpenSpec.upto fdsetOneSpec)) fdsetOneUptoCard
end Rows
end Go.Proofs.YthpinbngggcgcaaDoor
