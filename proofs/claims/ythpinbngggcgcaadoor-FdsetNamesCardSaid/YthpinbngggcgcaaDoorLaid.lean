/-
  From the row's condition on the listed table to what the walks ask of it; a slice of ints that comes in.
-/
import Derived.Test.YthpinbngggcgcaaDoorRows
import Derived.Test.YthpinbngggcgcaaDoorMembers
import Derived.Test.YthpinbngggcgcaaDoorList
import Derived.Test.YthpinbngggcgcaaDoorOpen
import Derived.Lib.LaidTab
import Derived.LaidMore
import Derived.Stop.Joined
namespace Go.Proofs.YthpinbngggcgcaaDoor
open Go.ChangeShapes Go.WideShapes Go.ChangeAt Go.RowKit

theorem own : ownKnob Tryd.prog.godebug = none := by kernel_rfl
theorem laidOut : laidOutB Tryd.prog = true := by kernel_rfl
/-- The table as ints. -/
def tabZs : List Int := Lib.deBruijn32tab.map (fun n : Nat => (n : Int))
theorem cellsU8 : Tryd.prog.cellsOf 5 = 1 := by kernel_rfl
theorem cellsTab : Tryd.prog.cellsOf 77 = 32 := by kernel_rfl
theorem gTab : Tryd.prog.globalNamed "math/bits.deBruijn32tab" = some 0 := by kernel_rfl
theorem gTabType : (Tryd.prog.globals[0]?).map (·.type) = some 77 := by kernel_rfl

theorem tab_of_laid {W : World} {rest : List (String × DataW Unit)} (h : laidMet Tryd.prog (("math/bits.deBruijn32tab", Rows.laid_math_bits_deBruijn32tab) :: rest) W) : Tab W ∧ 0 < W.heap.size := by
  have hT : Lib.TabIs Tryd.prog W "math/bits.deBruijn32tab" .u8 tabZs := Lib.tabIs_of_head gTab gTabType Tryd.underlying77 Tryd.underlying5 cellsU8 cellsTab (show laidMet Tryd.prog (("math/bits.deBruijn32tab", Lib.tabData .u8 tabZs) :: rest) W from h)
  have hc : ∀ j, j < Lib.deBruijn32tab.length → W.cell? ⟨0, j, none⟩ = some (.int .u8 (Lib.deBruijn32tab.getD j 0)) := fun j hj => by
    have := hT.cell gTab j (by unfold tabZs; rw [List.length_map]; exact hj)
    rw [this]
    congr 2
    unfold tabZs
    simp [List.getD_eq_getElem?_getD, List.getElem?_map, List.getElem?_eq_getElem hj]
  exact ⟨hc, World.block_lt_of_cell? W ⟨0, 0, none⟩ (hc 0 (by decide))⟩

theorem isL_of_ints {w : World} {x : Addr} {len cap : Nat} {zs : List Int} (hl : len ≤ cap) (hm : cap ≤ maxLen) (hz : zs.length = cap) (hc : ∀ i, i < zs.length → w.cell? (x.add i) = some (.int .i64 (zs.getD i 0))) :
    IsL w (.slice (some x) len cap) (zs.take len) := by
  have hlen : (zs.take len).length = len := by rw [List.length_take]; omega
  refine ⟨some x, cap, by rw [hlen], by rw [hlen]; omega, (fun h => by cases h), ?_⟩
  by_cases h0 : len = 0
  · left; subst h0; simp
  · right
    obtain ⟨b, off, spot⟩ := x
    have h1 := hc 0 (by omega)
    have hs : spot = none := by simpa [Addr.add] using World.cell?_spot h1
    subst hs
    refine ⟨b, off, rfl, World.block_lt_of_cell? w _ (by simpa [Addr.add] using h1), fun j hj => ?_⟩
    rw [hlen] at hj
    have h2 := hc j (by omega)
    have hadd : (⟨b, off, none⟩ : Addr).add j = ⟨b, off + j, none⟩ := by unfold Addr.add; split <;> simp_all
    rw [hadd] at h2
    rw [h2, List.getD_eq_getElem?_getD, List.getElem?_take, if_pos hj]
end Go.Proofs.YthpinbngggcgcaaDoor
