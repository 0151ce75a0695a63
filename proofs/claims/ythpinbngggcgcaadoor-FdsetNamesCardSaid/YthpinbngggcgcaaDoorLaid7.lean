/-
  From the condition on the seven listed variables to what the walks ask: the tables, and the two error values of strconv.
-/
import Derived.Test.YthpinbngggcgcaaDoorLaid3
import Derived.Test.YthpinbngggcgcaaDoorFdP
import Derived.Stop.LaidErr
namespace Go.Proofs.YthpinbngggcgcaaDoor
open Go.ChangeShapes Go.WideShapes Go.ChangeAt Go.RowKit

theorem gRange : Tryd.prog.globalNamed "strconv.ErrRange" = some 5 := by kernel_rfl
theorem gRangeType : (Tryd.prog.globals[5]?).map (·.type) = some 83 := by kernel_rfl
theorem gSyntax : Tryd.prog.globalNamed "strconv.ErrSyntax" = some 4 := by kernel_rfl
theorem gSyntaxType : (Tryd.prog.globals[4]?).map (·.type) = some 83 := by kernel_rfl
theorem cellsErrStr : Tryd.prog.cellsOf 123 = 1 := by kernel_rfl
theorem cellsStr : Tryd.prog.cellsOf 9 = 1 := by kernel_rfl
/-- The seven listed variables. -/
def laid7 : List (String × DataW Unit) := [("math/bits.deBruijn32tab", Rows.laid_math_bits_deBruijn32tab), ("math/bits.deBruijn64tab", Rows.laid_math_bits_deBruijn64tab), ("internal/strconv.uint64pow10", Rows.laid_internal_strconv_uint64pow10), ("unicode/utf8.acceptRanges", Rows.laid_unicode_utf8_acceptRanges), ("strconv.ErrRange", Rows.laid_strconv_ErrRange), ("strconv.ErrSyntax", Rows.laid_strconv_ErrSyntax), ("unicode/utf8.first", Rows.laid_unicode_utf8_first)]
theorem laid7_tables : laid7.filter (fun x => x.1 == "math/bits.deBruijn32tab" || (x.1 == "math/bits.deBruijn64tab" || x.1 == "internal/strconv.uint64pow10")) = laid3 := by kernel_rfl
theorem starErr : "*" ++ "errors.errorString" = "*errors.errorString" := by decide
theorem rowErr (u : TypeId) (h : Tryd.prog.typeName? 3 u = some "*errors.errorString") : u = 121 :=
  typeName_ptr_named (nm := "errors.errorString") (by rw [starErr]; kernel_rfl) (by kernel_rfl) (by decide) u (by rw [starErr]; exact h)
/-- The tables and the errors. -/
def HereE (w : World) : Prop := Here w ∧ Errs w
theorem HereE.below {w w' : World} (h : HereE w) (hb : Below w.heap.size w w') : HereE w' := ⟨h.1.below hb, h.2.below hb⟩
theorem hereE_of_laid {W : World} (h : laidMet Tryd.prog laid7 W) : HereE W := by
  refine ⟨here_of_laid ?_, ?_⟩
  · have h3 := laidMet.filter (fun x => x.1 == "math/bits.deBruijn32tab" || (x.1 == "math/bits.deBruijn64tab" || x.1 == "internal/strconv.uint64pow10")) h
    rwa [laid7_tables] at h3
  · have h4 := h.tail.tail.tail.tail
    obtain ⟨a, s, hv, _⟩ := laid_sentinel h4 gRange gRangeType Tryd.underlying83 rowErr Tryd.underlying121 Tryd.underlying123 rfl rfl Tryd.underlying9 cellsErrStr cellsStr
    obtain ⟨a', s', hv', _⟩ := laid_sentinel h4.tail gSyntax gSyntaxType Tryd.underlying83 rowErr Tryd.underlying121 Tryd.underlying123 rfl rfl Tryd.underlying9 cellsErrStr cellsStr
    exact ⟨⟨_, by simpa using World.var?_cell gSyntax hv' 0, .inr ⟨_, _, rfl⟩⟩, ⟨_, by simpa using World.var?_cell gRange hv 0, .inr ⟨_, _, rfl⟩⟩⟩
end Go.Proofs.YthpinbngggcgcaaDoor
