/-
  From the row's condition on the listed table to what the walks ask of it.
-/
import Derived.Test.YtbbgnpnopodppaaDoorRows
import Derived.Test.YtbbgnpnopodppaaDoorSeBase
import Derived.ProofKit
import Derived.OpenShut
import Derived.Carry
import Derived.Lib.LaidTab
import Derived.LaidMore
import Derived.Stop.Joined
namespace Go.Proofs.YtbbgnpnopodppaaDoor
open Go.ChangeShapes Go.WideShapes Go.ChangeAt Go.RowKit

theorem own : ownKnob Tryd.prog.godebug = none := by kernel_rfl
theorem laidOut : laidOutB Tryd.prog = true := by kernel_rfl
/-- The table as ints. -/
def tabZs : List Int := Lib.deBruijn32tab.map (fun n : Nat => (n : Int))
theorem cellsU8 : Tryd.prog.cellsOf 5 = 1 := by kernel_rfl
theorem cellsTab : Tryd.prog.cellsOf 104 = 32 := by kernel_rfl
theorem gTab : Tryd.prog.globalNamed "math/bits.deBruijn32tab" = some 0 := by kernel_rfl
theorem gTabType : (Tryd.prog.globals[0]?).map (·.type) = some 104 := by kernel_rfl
theorem tab_of_laid {W : World} {rest : List (String × DataW Unit)} (h : laidMet Tryd.prog (("math/bits.deBruijn32tab", Rows.laid_math_bits_deBruijn32tab) :: rest) W) : Fs.Tab W ∧ 0 < W.heap.size := by
  have hT : Lib.TabIs Tryd.prog W "math/bits.deBruijn32tab" .u8 tabZs := Lib.tabIs_of_head gTab gTabType Tryd.underlying104 Tryd.underlying5 cellsU8 cellsTab (show laidMet Tryd.prog (("math/bits.deBruijn32tab", Lib.tabData .u8 tabZs) :: rest) W from h)
  have hc : ∀ j, j < Lib.deBruijn32tab.length → W.cell? ⟨0, j, none⟩ = some (.int .u8 (Lib.deBruijn32tab.getD j 0)) := fun j hj => by
    have := hT.cell gTab j (by unfold tabZs; rw [List.length_map]; exact hj)
    rw [this]
    congr 2
    unfold tabZs
    simp [List.getD_eq_getElem?_getD, List.getElem?_map, List.getElem?_eq_getElem hj]
  exact ⟨hc, World.block_lt_of_cell? W ⟨0, 0, none⟩ (hc 0 (by decide))⟩
end Go.Proofs.YtbbgnpnopodppaaDoor
