/-
  DERIVED. GIVEN WITH THE SEED: THE PROGRAM's TIES (one call each: nine closed facts by the kernel) AND EACH ROW's TIE, after the 31st guide's Derived/Test/Toyas{Tie, Card}.lean. No idea stands in it: it is a product of the set-up. Laid BY PROGRAM, IN A SANDBOX (cutbox-door.mjs). By AI agents, Wed Nov 11 2026. No macro, syntax, notation, axiom, sorry.
-/
import Derived.Test.YtbpgoopmfofcnaaDoorRows
import Derived.LaidByTextLater
import Derived.SevenTiedAt
import Derived.LaidSub
import Derived.LaidOnce
namespace Go.Proofs.YtbpgoopmfofcnaaDoor
open Go
set_option maxRecDepth 100000
theorem seatTie1 : Tryd.prog.laidByTextLater [("roundhouse/flag.drivers", Rows.laid_roundhouse_flag_drivers), ("roundhouse/flag.flagWords", Rows.laid_roundhouse_flag_flagWords), ("roundhouse/flag.featureWords", Rows.laid_roundhouse_flag_featureWords)] [.data, .data, .data] true :=
  Program.laidByTextLater_by_one 28 8 13 (by kernel_rfl) (by kernel_rfl) (by kernel_rfl) (by kernel_rfl) (by kernel_rfl) (by kernel_rfl) (fun _ _ => by kernel_rfl)
theorem noOwnUnsafe : Tryd.pinned.checked.prog.headLifts.contains "ownunsafe" = false := by kernel_rfl
theorem tie : Tryd.prog.laidByTextLater [("roundhouse/flag.flagWords", Rows.laid_roundhouse_flag_flagWords), ("roundhouse/flag.featureWords", Rows.laid_roundhouse_flag_featureWords)] [.data, .data] true :=
  Program.laidByTextLater.sub seatTie1 ["roundhouse/flag.flagWords", "roundhouse/flag.featureWords"] (by kernel_rfl) (by kernel_rfl)
theorem flagWords_row_tie : Rows.flagWordsRow.laidByTextAt .later Tryd.pinned [.data, .data] true :=
  OpenClaim.laidByTextAt_later rfl rfl tie noOwnUnsafe
theorem tie2 : Tryd.prog.laidByTextLater [("roundhouse/flag.drivers", Rows.laid_roundhouse_flag_drivers)] [.data] true :=
  Program.laidByTextLater.sub seatTie1 ["roundhouse/flag.drivers"] (by kernel_rfl) (by kernel_rfl)
theorem flagDrivers_row_tie : Rows.flagDriversRow.laidByTextAt .later Tryd.pinned [.data] true :=
  OpenClaim.laidByTextAt_later rfl rfl tie2 noOwnUnsafe
theorem tie3 : Tryd.prog.laidByTextLater [("roundhouse/flag.drivers", Rows.laid_roundhouse_flag_drivers), ("roundhouse/flag.flagWords", Rows.laid_roundhouse_flag_flagWords)] [.data, .data] true :=
  Program.laidByTextLater.sub seatTie1 ["roundhouse/flag.drivers", "roundhouse/flag.flagWords"] (by kernel_rfl) (by kernel_rfl)
theorem flagNames_row_tie : Rows.flagNamesRow.laidByTextAt .later Tryd.pinned [.data, .data] true :=
  OpenClaim.laidByTextAt_later rfl rfl tie3 noOwnUnsafe
theorem flagChoice_row_tie : Rows.flagChoiceRow.laidByTextAt .later Tryd.pinned [.data, .data] true :=
  OpenClaim.laidByTextAt_later rfl rfl tie3 noOwnUnsafe
theorem flagJoins_row_tie : Rows.flagJoinsRow.laidByTextAt .later Tryd.pinned [.data, .data] true :=
  OpenClaim.laidByTextAt_later rfl rfl tie3 noOwnUnsafe
theorem tie4 : Tryd.prog.laidByTextLater [("roundhouse/flag.drivers", Rows.laid_roundhouse_flag_drivers), ("roundhouse/flag.flagWords", Rows.laid_roundhouse_flag_flagWords), ("roundhouse/flag.featureWords", Rows.laid_roundhouse_flag_featureWords)] [.data, .data, .data] true :=
  Program.laidByTextLater.sub seatTie1 ["roundhouse/flag.drivers", "roundhouse/flag.flagWords", "roundhouse/flag.featureWords"] (by kernel_rfl) (by kernel_rfl)
theorem flagBack_row_tie : Rows.flagBackRow.laidByTextAt .later Tryd.pinned [.data, .data, .data] true :=
  OpenClaim.laidByTextAt_later rfl rfl tie4 noOwnUnsafe
theorem flagWordsUpto_row_tie : Rows.flagWordsUptoRow.laidByTextAt .later Tryd.pinned [.data, .data] true :=
  OpenClaim.laidByTextAt_later rfl rfl tie noOwnUnsafe
theorem flagDriversUpto_row_tie : Rows.flagDriversUptoRow.laidByTextAt .later Tryd.pinned [.data] true :=
  OpenClaim.laidByTextAt_later rfl rfl tie2 noOwnUnsafe
theorem flagNamesUpto_row_tie : Rows.flagNamesUptoRow.laidByTextAt .later Tryd.pinned [.data, .data] true :=
  OpenClaim.laidByTextAt_later rfl rfl tie3 noOwnUnsafe
theorem flagBackUpto_row_tie : Rows.flagBackUptoRow.laidByTextAt .later Tryd.pinned [.data, .data, .data] true :=
  OpenClaim.laidByTextAt_later rfl rfl tie4 noOwnUnsafe
theorem flagChoiceUpto_row_tie : Rows.flagChoiceUptoRow.laidByTextAt .later Tryd.pinned [.data, .data] true :=
  OpenClaim.laidByTextAt_later rfl rfl tie3 noOwnUnsafe
theorem flagJoinsUpto_row_tie : Rows.flagJoinsUptoRow.laidByTextAt .later Tryd.pinned [.data, .data] true :=
  OpenClaim.laidByTextAt_later rfl rfl tie3 noOwnUnsafe
end Go.Proofs.YtbpgoopmfofcnaaDoor
