/-
  From the condition on the three listed tables to what the walks ask.
-/
import Derived.Test.YthpinbngggcgcaaDoorLaid
import Derived.Test.YthpinbngggcgcaaDoorAlive
import Derived.LaidSub
namespace Go.Proofs.YthpinbngggcgcaaDoor
open Go.ChangeShapes Go.WideShapes Go.ChangeAt Go.RowKit

theorem cellsU64 : Tryd.prog.cellsOf 87 = 1 := by kernel_rfl
theorem cellsPow : Tryd.prog.cellsOf 116 = 20 := by kernel_rfl
theorem gPow : Tryd.prog.globalNamed "internal/strconv.uint64pow10" = some 6 := by kernel_rfl
theorem gPowType : (Tryd.prog.globals[6]?).map (·.type) = some 116 := by kernel_rfl
/-- The three tables. -/
def laid3 : List (String × DataW Unit) := [("math/bits.deBruijn32tab", Rows.laid_math_bits_deBruijn32tab), ("math/bits.deBruijn64tab", Rows.laid_math_bits_deBruijn64tab), ("internal/strconv.uint64pow10", Rows.laid_internal_strconv_uint64pow10)]
theorem laid3_pow : laid3.filter (fun x => x.1 == "internal/strconv.uint64pow10") = [("internal/strconv.uint64pow10", Lib.tabData .u64 Lib.pow10Tab)] := by kernel_rfl
theorem here_of_laid {W : World} (h : laidMet Tryd.prog laid3 W) : Here W := by
  obtain ⟨hT, hg⟩ := tab_of_laid h
  have h2 := laidMet.filter (fun x => x.1 == "internal/strconv.uint64pow10") h
  rw [laid3_pow] at h2
  exact ⟨hT, hg, Lib.tabBelow_of_tabIs (Lib.tabIs_of_head gPow gPowType Tryd.underlying116 Tryd.underlying87 cellsU64 cellsPow h2)⟩
theorem laid3_none : (laid3.all fun x => x.2.handleName?.isNone) = true := by kernel_rfl
end Go.Proofs.YthpinbngggcgcaaDoor
