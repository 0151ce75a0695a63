/-
  NARROWER THAN 'FOR EVERY INPUT', by the rows' own cells (each row's printed sentence says how): FdsetOf: laid · FdsetTexts: laid · FdsetNames: laid · FdsetBack: laid · FdsetParts: laid · FdsetSteps: laid · FdsetCounts: laid · FdsetOne: laid.
  DERIVED. THE GIVEN ROWS OF THIS SEAT. 8 by the template 'for every input the law returns true; each argument reads behind the call as it read before'; 0 by the template 'total and deterministic' (their statements: YthpinbngggcgcaaDoorTotals.lean).
  GIVEN WITH THE SEED: the statements are not yours to turn. If you find one false, say at which input.
  Laid BY PROGRAM, IN A SANDBOX (cutbox-rows.mjs): the forced cells as the released guide's own fill.sh prints them over the translation b34ea8d455c3eafa… (all of the seat's roots in one cut). By AI agents, Wed Nov 11 2026. No macro, syntax, notation, axiom, sorry.
-/
import Derived.Test.YthpinbngggcgcaaDoorChecked
import GoSem.PinnedTables
import GoSem.Claim
import GoSem.ClaimJoined
import GoSem.ClaimMapViews
import Derived.JoinedTies
import Derived.KernelRfl
namespace Go.Proofs.YthpinbngggcgcaaDoor
/- THE CELL 'sum', in the pinned program and in every row, IS THE sha256 OF THE DUMP (.gsa) THAT YthpinbngggcgcaaDoorProg.lean LOADS. Nothing in Lean hashes anything: it is a label: what it is worth is what the hold of that sum in a sandbox is worth. -/
noncomputable def Tryd.pinned : Pinned := { name := "ythpinbngggcgcaadoor", sum := "b34ea8d455c3eafac9826347910051051d32a8fbf16ea798cac69cba75ecbb40", checked := Tryd.checked }
namespace Rows
def none {H : Type} : Left H := { results := [], args := [] }

/- WHAT THE LISTED PACKAGE-LEVEL VARIABLES READ AS WHEN THE CALL BEGINS. Each datum BY PROGRAM (the guide's laid-datum.mjs) off the statement by which the dump's own 'gosem.cut.vars' lays the variable. In a bare row this is a premise. The card (YthpinbngggcgcaaDoorCards.lean) ties it to the program's text. -/
def laid_math_bits_deBruijn32tab {H : Type} : DataW H := .agg [.lit (.int .u8 0), .lit (.int .u8 1), .lit (.int .u8 28), .lit (.int .u8 2), .lit (.int .u8 29), .lit (.int .u8 14), .lit (.int .u8 24), .lit (.int .u8 3), .lit (.int .u8 30), .lit (.int .u8 22), .lit (.int .u8 20), .lit (.int .u8 15), .lit (.int .u8 25), .lit (.int .u8 17), .lit (.int .u8 4), .lit (.int .u8 8), .lit (.int .u8 31), .lit (.int .u8 27), .lit (.int .u8 13), .lit (.int .u8 23), .lit (.int .u8 21), .lit (.int .u8 19), .lit (.int .u8 16), .lit (.int .u8 7), .lit (.int .u8 26), .lit (.int .u8 12), .lit (.int .u8 18), .lit (.int .u8 6), .lit (.int .u8 11), .lit (.int .u8 5), .lit (.int .u8 10), .lit (.int .u8 9)]
def laid_math_bits_deBruijn64tab {H : Type} : DataW H := .agg [.lit (.int .u8 0), .lit (.int .u8 1), .lit (.int .u8 56), .lit (.int .u8 2), .lit (.int .u8 57), .lit (.int .u8 49), .lit (.int .u8 28), .lit (.int .u8 3), .lit (.int .u8 61), .lit (.int .u8 58), .lit (.int .u8 42), .lit (.int .u8 50), .lit (.int .u8 38), .lit (.int .u8 29), .lit (.int .u8 17), .lit (.int .u8 4), .lit (.int .u8 62), .lit (.int .u8 47), .lit (.int .u8 59), .lit (.int .u8 36), .lit (.int .u8 45), .lit (.int .u8 43), .lit (.int .u8 51), .lit (.int .u8 22), .lit (.int .u8 53), .lit (.int .u8 39), .lit (.int .u8 33), .lit (.int .u8 30), .lit (.int .u8 24), .lit (.int .u8 18), .lit (.int .u8 12), .lit (.int .u8 5), .lit (.int .u8 63), .lit (.int .u8 55), .lit (.int .u8 48), .lit (.int .u8 27), .lit (.int .u8 60), .lit (.int .u8 41), .lit (.int .u8 37), .lit (.int .u8 16), .lit (.int .u8 46), .lit (.int .u8 35), .lit (.int .u8 44), .lit (.int .u8 21), .lit (.int .u8 52), .lit (.int .u8 32), .lit (.int .u8 23), .lit (.int .u8 11), .lit (.int .u8 54), .lit (.int .u8 26), .lit (.int .u8 40), .lit (.int .u8 15), .lit (.int .u8 34), .lit (.int .u8 20), .lit (.int .u8 31), .lit (.int .u8 10), .lit (.int .u8 25), .lit (.int .u8 14), .lit (.int .u8 19), .lit (.int .u8 9), .lit (.int .u8 13), .lit (.int .u8 8), .lit (.int .u8 7), .lit (.int .u8 6)]
def laid_internal_strconv_uint64pow10 {H : Type} : DataW H := .agg [.lit (.int .u64 1), .lit (.int .u64 10), .lit (.int .u64 100), .lit (.int .u64 1000), .lit (.int .u64 10000), .lit (.int .u64 100000), .lit (.int .u64 1000000), .lit (.int .u64 10000000), .lit (.int .u64 100000000), .lit (.int .u64 1000000000), .lit (.int .u64 10000000000), .lit (.int .u64 100000000000), .lit (.int .u64 1000000000000), .lit (.int .u64 10000000000000), .lit (.int .u64 100000000000000), .lit (.int .u64 1000000000000000), .lit (.int .u64 10000000000000000), .lit (.int .u64 100000000000000000), .lit (.int .u64 1000000000000000000), .lit (.int .u64 10000000000000000000)]
def laid_unicode_utf8_acceptRanges {H : Type} : DataW H := .agg [.agg [.lit (.int .u8 128), .lit (.int .u8 191)], .agg [.lit (.int .u8 160), .lit (.int .u8 191)], .agg [.lit (.int .u8 128), .lit (.int .u8 159)], .agg [.lit (.int .u8 144), .lit (.int .u8 191)], .agg [.lit (.int .u8 128), .lit (.int .u8 143)], .agg [.lit (.int .u8 0), .lit (.int .u8 0)], .agg [.lit (.int .u8 0), .lit (.int .u8 0)], .agg [.lit (.int .u8 0), .lit (.int .u8 0)], .agg [.lit (.int .u8 0), .lit (.int .u8 0)], .agg [.lit (.int .u8 0), .lit (.int .u8 0)], .agg [.lit (.int .u8 0), .lit (.int .u8 0)], .agg [.lit (.int .u8 0), .lit (.int .u8 0)], .agg [.lit (.int .u8 0), .lit (.int .u8 0)], .agg [.lit (.int .u8 0), .lit (.int .u8 0)], .agg [.lit (.int .u8 0), .lit (.int .u8 0)], .agg [.lit (.int .u8 0), .lit (.int .u8 0)]]
def laid_strconv_ErrRange {H : Type} : DataW H := .iface "*errors.errorString" (.ptr (.agg [.lit (.string [118, 97, 108, 117, 101, 32, 111, 117, 116, 32, 111, 102, 32, 114, 97, 110, 103, 101])]))
def laid_strconv_ErrSyntax {H : Type} : DataW H := .iface "*errors.errorString" (.ptr (.agg [.lit (.string [105, 110, 118, 97, 108, 105, 100, 32, 115, 121, 110, 116, 97, 120])]))
/-- One of Go's own tables, pinned by name: the form's constant. -/
def laid_unicode_utf8_first : DataW Unit := Go.Pinned.utf8First

/-- 'roundhouselaw01.FdsetOf': WHATEVER THE INPUT: true; the input reads as it did. -/
def fdsetOfSpec : ChangeSpec := { name := "fdsetOf", fn := fun _ => fun
  | [d1, d2] => { results := [.lit (.bool true)], args := [d1, d2] }
  | _ => none }
def fdsetOfRow : OpenClaim := { program := "ythpinbngggcgcaadoor", sum := "b34ea8d455c3eafac9826347910051051d32a8fbf16ea798cac69cba75ecbb40", func := "roundhouse/roundhouselaw01.FdsetOf", spec := "fdsetOf", unfollowed := true, recurses := true, named := ["math/bits.deBruijn32tab"], apart := false, laid := [("math/bits.deBruijn32tab", laid_math_bits_deBruijn32tab)] }
def FdsetOfSaid : Prop := fdsetOfRow.holds Tryd.pinned (OpenSpec.ofChange fdsetOfSpec)

/-- ITS FALSE NEIGHBOUR: 'it returns false'. Refute it at one input. -/
def fdsetOfWrong : ChangeSpec := { name := "fdsetOf", fn := fun _ => fun
  | [d1, d2] => { results := [.lit (.bool false)], args := [d1, d2] }
  | _ => none }
def FdsetOfWrongFalsely : Prop := fdsetOfRow.holds Tryd.pinned (OpenSpec.ofChange fdsetOfWrong)

/-- 'roundhouselaw01.FdsetTexts': WHATEVER THE INPUT: true; the input reads as it did. -/
def fdsetTextsSpec : ChangeSpec := { name := "fdsetTexts", fn := fun _ => fun
  | [d1, d2] => { results := [.lit (.bool true)], args := [d1, d2] }
  | _ => none }
def fdsetTextsRow : OpenClaim := { program := "ythpinbngggcgcaadoor", sum := "b34ea8d455c3eafac9826347910051051d32a8fbf16ea798cac69cba75ecbb40", func := "roundhouse/roundhouselaw01.FdsetTexts", spec := "fdsetTexts", inPlace := ["internal/bytealg.IndexByteString", "internal/bytealg.IndexString"], unfollowed := true, recurses := true, named := ["unicode/utf8.first", "unicode/utf8.acceptRanges", "internal/bytealg.MaxLen", "strconv.ErrSyntax", "strconv.ErrRange", "internal/strconv.uint64pow10", "math/bits.deBruijn32tab", "math/bits.deBruijn64tab"], apart := false, laid := [("math/bits.deBruijn32tab", laid_math_bits_deBruijn32tab), ("math/bits.deBruijn64tab", laid_math_bits_deBruijn64tab), ("internal/strconv.uint64pow10", laid_internal_strconv_uint64pow10), ("unicode/utf8.acceptRanges", laid_unicode_utf8_acceptRanges), ("strconv.ErrRange", laid_strconv_ErrRange), ("strconv.ErrSyntax", laid_strconv_ErrSyntax), ("unicode/utf8.first", laid_unicode_utf8_first)] }
def FdsetTextsSaid : Prop := fdsetTextsRow.holds Tryd.pinned (OpenSpec.ofChange fdsetTextsSpec)

/-- ITS FALSE NEIGHBOUR: 'it returns false'. Refute it at one input. -/
def fdsetTextsWrong : ChangeSpec := { name := "fdsetTexts", fn := fun _ => fun
  | [d1, d2] => { results := [.lit (.bool false)], args := [d1, d2] }
  | _ => none }
def FdsetTextsWrongFalsely : Prop := fdsetTextsRow.holds Tryd.pinned (OpenSpec.ofChange fdsetTextsWrong)

/-- 'roundhouselaw01.FdsetNames': WHATEVER THE INPUT: true; the input reads as it did. -/
def fdsetNamesSpec : ChangeSpec := { name := "fdsetNames", fn := fun _ => fun
  | [] => { results := [.lit (.bool true)], args := [] }
  | _ => none }
def fdsetNamesRow : OpenClaim := { program := "ythpinbngggcgcaadoor", sum := "b34ea8d455c3eafac9826347910051051d32a8fbf16ea798cac69cba75ecbb40", func := "roundhouse/roundhouselaw01.FdsetNames", spec := "fdsetNames", inPlace := ["internal/bytealg.IndexByteString", "internal/bytealg.IndexString"], unfollowed := true, recurses := true, named := ["unicode/utf8.first", "unicode/utf8.acceptRanges", "internal/bytealg.MaxLen", "strconv.ErrSyntax", "strconv.ErrRange", "internal/strconv.uint64pow10", "math/bits.deBruijn32tab", "math/bits.deBruijn64tab"], apart := false, laid := [("math/bits.deBruijn32tab", laid_math_bits_deBruijn32tab), ("math/bits.deBruijn64tab", laid_math_bits_deBruijn64tab), ("internal/strconv.uint64pow10", laid_internal_strconv_uint64pow10), ("unicode/utf8.acceptRanges", laid_unicode_utf8_acceptRanges), ("strconv.ErrRange", laid_strconv_ErrRange), ("strconv.ErrSyntax", laid_strconv_ErrSyntax), ("unicode/utf8.first", laid_unicode_utf8_first)] }
def FdsetNamesSaid : Prop := fdsetNamesRow.holds Tryd.pinned (OpenSpec.ofChange fdsetNamesSpec)

/-- ITS FALSE NEIGHBOUR: 'it returns false'. Refute it at one input. -/
def fdsetNamesWrong : ChangeSpec := { name := "fdsetNames", fn := fun _ => fun
  | [] => { results := [.lit (.bool false)], args := [] }
  | _ => none }
def FdsetNamesWrongFalsely : Prop := fdsetNamesRow.holds Tryd.pinned (OpenSpec.ofChange fdsetNamesWrong)

/-- 'roundhouselaw01.FdsetBack': WHATEVER THE INPUT: true; the input reads as it did. -/
def fdsetBackSpec : ChangeSpec := { name := "fdsetBack", fn := fun _ => fun
  | [d1, d2] => { results := [.lit (.bool true)], args := [d1, d2] }
  | _ => none }
def fdsetBackRow : OpenClaim := { program := "ythpinbngggcgcaadoor", sum := "b34ea8d455c3eafac9826347910051051d32a8fbf16ea798cac69cba75ecbb40", func := "roundhouse/roundhouselaw01.FdsetBack", spec := "fdsetBack", inPlace := ["internal/bytealg.IndexByteString", "internal/bytealg.IndexString"], unfollowed := true, recurses := true, named := ["math/bits.deBruijn32tab", "internal/strconv.uint64pow10", "math/bits.deBruijn64tab", "unicode/utf8.first", "unicode/utf8.acceptRanges", "internal/bytealg.MaxLen", "strconv.ErrSyntax", "strconv.ErrRange"], apart := false, laid := [("math/bits.deBruijn32tab", laid_math_bits_deBruijn32tab), ("math/bits.deBruijn64tab", laid_math_bits_deBruijn64tab), ("internal/strconv.uint64pow10", laid_internal_strconv_uint64pow10), ("unicode/utf8.acceptRanges", laid_unicode_utf8_acceptRanges), ("strconv.ErrRange", laid_strconv_ErrRange), ("strconv.ErrSyntax", laid_strconv_ErrSyntax), ("unicode/utf8.first", laid_unicode_utf8_first)] }
def FdsetBackSaid : Prop := fdsetBackRow.holds Tryd.pinned (OpenSpec.ofChange fdsetBackSpec)

/-- ITS FALSE NEIGHBOUR: 'it returns false'. Refute it at one input. -/
def fdsetBackWrong : ChangeSpec := { name := "fdsetBack", fn := fun _ => fun
  | [d1, d2] => { results := [.lit (.bool false)], args := [d1, d2] }
  | _ => none }
def FdsetBackWrongFalsely : Prop := fdsetBackRow.holds Tryd.pinned (OpenSpec.ofChange fdsetBackWrong)

/-- 'roundhouselaw01.FdsetParts': WHATEVER THE INPUT: true; the input reads as it did. -/
def fdsetPartsSpec : ChangeSpec := { name := "fdsetParts", fn := fun _ => fun
  | [d1, d2] => { results := [.lit (.bool true)], args := [d1, d2] }
  | _ => none }
def fdsetPartsRow : OpenClaim := { program := "ythpinbngggcgcaadoor", sum := "b34ea8d455c3eafac9826347910051051d32a8fbf16ea798cac69cba75ecbb40", func := "roundhouse/roundhouselaw01.FdsetParts", spec := "fdsetParts", unfollowed := true, recurses := true, named := ["math/bits.deBruijn32tab", "internal/strconv.uint64pow10", "math/bits.deBruijn64tab"], apart := false, laid := [("math/bits.deBruijn32tab", laid_math_bits_deBruijn32tab), ("math/bits.deBruijn64tab", laid_math_bits_deBruijn64tab), ("internal/strconv.uint64pow10", laid_internal_strconv_uint64pow10)] }
def FdsetPartsSaid : Prop := fdsetPartsRow.holds Tryd.pinned (OpenSpec.ofChange fdsetPartsSpec)

/-- ITS FALSE NEIGHBOUR: 'it returns false'. Refute it at one input. -/
def fdsetPartsWrong : ChangeSpec := { name := "fdsetParts", fn := fun _ => fun
  | [d1, d2] => { results := [.lit (.bool false)], args := [d1, d2] }
  | _ => none }
def FdsetPartsWrongFalsely : Prop := fdsetPartsRow.holds Tryd.pinned (OpenSpec.ofChange fdsetPartsWrong)

/-- 'roundhouselaw01.FdsetSteps': WHATEVER THE INPUT: true; the input reads as it did. -/
def fdsetStepsSpec : ChangeSpec := { name := "fdsetSteps", fn := fun _ => fun
  | [d1, d2] => { results := [.lit (.bool true)], args := [d1, d2] }
  | _ => none }
def fdsetStepsRow : OpenClaim := { program := "ythpinbngggcgcaadoor", sum := "b34ea8d455c3eafac9826347910051051d32a8fbf16ea798cac69cba75ecbb40", func := "roundhouse/roundhouselaw01.FdsetSteps", spec := "fdsetSteps", unfollowed := true, recurses := true, named := ["math/bits.deBruijn32tab", "internal/strconv.uint64pow10", "math/bits.deBruijn64tab"], apart := false, laid := [("math/bits.deBruijn32tab", laid_math_bits_deBruijn32tab), ("math/bits.deBruijn64tab", laid_math_bits_deBruijn64tab), ("internal/strconv.uint64pow10", laid_internal_strconv_uint64pow10)] }
def FdsetStepsSaid : Prop := fdsetStepsRow.holds Tryd.pinned (OpenSpec.ofChange fdsetStepsSpec)

/-- ITS FALSE NEIGHBOUR: 'it returns false'. Refute it at one input. -/
def fdsetStepsWrong : ChangeSpec := { name := "fdsetSteps", fn := fun _ => fun
  | [d1, d2] => { results := [.lit (.bool false)], args := [d1, d2] }
  | _ => none }
def FdsetStepsWrongFalsely : Prop := fdsetStepsRow.holds Tryd.pinned (OpenSpec.ofChange fdsetStepsWrong)

/-- 'roundhouselaw01.FdsetCounts': WHATEVER THE INPUT: true; the input reads as it did. -/
def fdsetCountsSpec : ChangeSpec := { name := "fdsetCounts", fn := fun _ => fun
  | [d1, d2] => { results := [.lit (.bool true)], args := [d1, d2] }
  | _ => none }
def fdsetCountsRow : OpenClaim := { program := "ythpinbngggcgcaadoor", sum := "b34ea8d455c3eafac9826347910051051d32a8fbf16ea798cac69cba75ecbb40", func := "roundhouse/roundhouselaw01.FdsetCounts", spec := "fdsetCounts", unfollowed := true, recurses := true, named := ["math/bits.deBruijn32tab", "internal/strconv.uint64pow10", "math/bits.deBruijn64tab"], apart := false, laid := [("math/bits.deBruijn32tab", laid_math_bits_deBruijn32tab), ("math/bits.deBruijn64tab", laid_math_bits_deBruijn64tab), ("internal/strconv.uint64pow10", laid_internal_strconv_uint64pow10)] }
def FdsetCountsSaid : Prop := fdsetCountsRow.holds Tryd.pinned (OpenSpec.ofChange fdsetCountsSpec)

/-- ITS FALSE NEIGHBOUR: 'it returns false'. Refute it at one input. -/
def fdsetCountsWrong : ChangeSpec := { name := "fdsetCounts", fn := fun _ => fun
  | [d1, d2] => { results := [.lit (.bool false)], args := [d1, d2] }
  | _ => none }
def FdsetCountsWrongFalsely : Prop := fdsetCountsRow.holds Tryd.pinned (OpenSpec.ofChange fdsetCountsWrong)

/-- 'roundhouselaw01.FdsetOne': WHATEVER THE INPUT: true; the input reads as it did. -/
def fdsetOneSpec : ChangeSpec := { name := "fdsetOne", fn := fun _ => fun
  | [d1, d2] => { results := [.lit (.bool true)], args := [d1, d2] }
  | _ => none }
def fdsetOneRow : OpenClaim := { program := "ythpinbngggcgcaadoor", sum := "b34ea8d455c3eafac9826347910051051d32a8fbf16ea798cac69cba75ecbb40", func := "roundhouse/roundhouselaw01.FdsetOne", spec := "fdsetOne", unfollowed := true, recurses := true, named := ["math/bits.deBruijn32tab", "internal/strconv.uint64pow10", "math/bits.deBruijn64tab"], apart := false, laid := [("math/bits.deBruijn32tab", laid_math_bits_deBruijn32tab), ("math/bits.deBruijn64tab", laid_math_bits_deBruijn64tab), ("internal/strconv.uint64pow10", laid_internal_strconv_uint64pow10)] }
def FdsetOneSaid : Prop := fdsetOneRow.holds Tryd.pinned (OpenSpec.ofChange fdsetOneSpec)

/-- ITS FALSE NEIGHBOUR: 'it returns false'. Refute it at one input. -/
def fdsetOneWrong : ChangeSpec := { name := "fdsetOne", fn := fun _ => fun
  | [d1, d2] => { results := [.lit (.bool false)], args := [d1, d2] }
  | _ => none }
def FdsetOneWrongFalsely : Prop := fdsetOneRow.holds Tryd.pinned (OpenSpec.ofChange fdsetOneWrong)

/- THE SECOND FORM. 'bulk': how many values and letters a reading holds, each counted each time it is reached (what is shared counts as often as it is met; a slice's spare places count too). A statement '..UptoSaid' is the law's where the arguments, and the package variables that the reading takes, are together of bulk at most 1048576: NARROWER than '..Said'. Prove '..Said' where nothing that the law and all that it calls make is longer than what came in: it says more and counts as full. Else prove '..UptoSaid'. A law counts once. -/
mutual
def uptoBulk {H : Type} : DataW H → Nat
  | .lit (.string bytes) => bytes.length + 1
  | .lit _ => 1
  | .nil => 1
  | .ptr d => uptoBulk d + 1
  | .slice elems spare => uptoBulkAll elems + uptoBulkAll spare + 1
  | .agg parts => uptoBulkAll parts + 1
  | .iface _ d => uptoBulk d + 1
  | .map entries => uptoBulkEntries entries + 1
  | .held _ => 1
def uptoBulkAll {H : Type} : List (DataW H) → Nat
  | [] => 0
  | d :: r => uptoBulk d + uptoBulkAll r
def uptoBulkEntries {H : Type} : List (Lit × DataW H) → Nat
  | [] => 0
  | x :: r => uptoBulkEntry x + uptoBulkEntries r
def uptoBulkEntry {H : Type} : Lit × DataW H → Nat
  | (.string bytes, d) => bytes.length + uptoBulk d + 1
  | (_, d) => uptoBulk d + 1
 end
def uptoSmall : (H : Type) → List (DataW H) → Bool := fun _ ds => decide (uptoBulkAll ds ≤ 1048576)
def OpenSpec.upto (s : _root_.Go.ChangeSpec) : _root_.Go.OpenSpec := { _root_.Go.OpenSpec.ofChange s with cond := some uptoSmall }

/-- 'roundhouselaw01.FdsetOf', WHERE WHAT IT READS IS OF BULK AT MOST 1048576: true; the input reads as it did. -/
def fdsetOfUptoRow : OpenClaim := { program := "ythpinbngggcgcaadoor", sum := "b34ea8d455c3eafac9826347910051051d32a8fbf16ea798cac69cba75ecbb40", func := "roundhouse/roundhouselaw01.FdsetOf", spec := "fdsetOf", unfollowed := true, recurses := true, named := ["math/bits.deBruijn32tab"], apart := false, laid := [("math/bits.deBruijn32tab", laid_math_bits_deBruijn32tab)], narrowed := true }
def FdsetOfUptoSaid : Prop := fdsetOfUptoRow.holds Tryd.pinned (OpenSpec.upto fdsetOfSpec)

/-- 'roundhouselaw01.FdsetTexts', WHERE WHAT IT READS IS OF BULK AT MOST 1048576: true; the input reads as it did. -/
def fdsetTextsUptoRow : OpenClaim := { program := "ythpinbngggcgcaadoor", sum := "b34ea8d455c3eafac9826347910051051d32a8fbf16ea798cac69cba75ecbb40", func := "roundhouse/roundhouselaw01.FdsetTexts", spec := "fdsetTexts", inPlace := ["internal/bytealg.IndexByteString", "internal/bytealg.IndexString"], unfollowed := true, recurses := true, named := ["unicode/utf8.first", "unicode/utf8.acceptRanges", "internal/bytealg.MaxLen", "strconv.ErrSyntax", "strconv.ErrRange", "internal/strconv.uint64pow10", "math/bits.deBruijn32tab", "math/bits.deBruijn64tab"], apart := false, laid := [("math/bits.deBruijn32tab", laid_math_bits_deBruijn32tab), ("math/bits.deBruijn64tab", laid_math_bits_deBruijn64tab), ("internal/strconv.uint64pow10", laid_internal_strconv_uint64pow10), ("unicode/utf8.acceptRanges", laid_unicode_utf8_acceptRanges), ("strconv.ErrRange", laid_strconv_ErrRange), ("strconv.ErrSyntax", laid_strconv_ErrSyntax), ("unicode/utf8.first", laid_unicode_utf8_first)], narrowed := true }
def FdsetTextsUptoSaid : Prop := fdsetTextsUptoRow.holds Tryd.pinned (OpenSpec.upto fdsetTextsSpec)

/-- 'roundhouselaw01.FdsetNames', WHERE WHAT IT READS IS OF BULK AT MOST 1048576: true; the input reads as it did. -/
def fdsetNamesUptoRow : OpenClaim := { program := "ythpinbngggcgcaadoor", sum := "b34ea8d455c3eafac9826347910051051d32a8fbf16ea798cac69cba75ecbb40", func := "roundhouse/roundhouselaw01.FdsetNames", spec := "fdsetNames", inPlace := ["internal/bytealg.IndexByteString", "internal/bytealg.IndexString"], unfollowed := true, recurses := true, named := ["unicode/utf8.first", "unicode/utf8.acceptRanges", "internal/bytealg.MaxLen", "strconv.ErrSyntax", "strconv.ErrRange", "internal/strconv.uint64pow10", "math/bits.deBruijn32tab", "math/bits.deBruijn64tab"], apart := false, laid := [("math/bits.deBruijn32tab", laid_math_bits_deBruijn32tab), ("math/bits.deBruijn64tab", laid_math_bits_deBruijn64tab), ("internal/strconv.uint64pow10", laid_internal_strconv_uint64pow10), ("unicode/utf8.acceptRanges", laid_unicode_utf8_acceptRanges), ("strconv.ErrRange", laid_strconv_ErrRange), ("strconv.ErrSyntax", laid_strconv_ErrSyntax), ("unicode/utf8.first", laid_unicode_utf8_first)], narrowed := true }
def FdsetNamesUptoSaid : Prop := fdsetNamesUptoRow.holds Tryd.pinned (OpenSpec.upto fdsetNamesSpec)

/-- 'roundhouselaw01.FdsetBack', WHERE WHAT IT READS IS OF BULK AT MOST 1048576: true; the input reads as it did. -/
def fdsetBackUptoRow : OpenClaim := { program := "ythpinbngggcgcaadoor", sum := "b34ea8d455c3eafac9826347910051051d32a8fbf16ea798cac69cba75ecbb40", func := "roundhouse/roundhouselaw01.FdsetBack", spec := "fdsetBack", inPlace := ["internal/bytealg.IndexByteString", "internal/bytealg.IndexString"], unfollowed := true, recurses := true, named := ["math/bits.deBruijn32tab", "internal/strconv.uint64pow10", "math/bits.deBruijn64tab", "unicode/utf8.first", "unicode/utf8.acceptRanges", "internal/bytealg.MaxLen", "strconv.ErrSyntax", "strconv.ErrRange"], apart := false, laid := [("math/bits.deBruijn32tab", laid_math_bits_deBruijn32tab), ("math/bits.deBruijn64tab", laid_math_bits_deBruijn64tab), ("internal/strconv.uint64pow10", laid_internal_strconv_uint64pow10), ("unicode/utf8.acceptRanges", laid_unicode_utf8_acceptRanges), ("strconv.ErrRange", laid_strconv_ErrRange), ("strconv.ErrSyntax", laid_strconv_ErrSyntax), ("unicode/utf8.first", laid_unicode_utf8_first)], narrowed := true }
def FdsetBackUptoSaid : Prop := fdsetBackUptoRow.holds Tryd.pinned (OpenSpec.upto fdsetBackSpec)

/-- 'roundhouselaw01.FdsetParts', WHERE WHAT IT READS IS OF BULK AT MOST 1048576: true; the input reads as it did. -/
def fdsetPartsUptoRow : OpenClaim := { program := "ythpinbngggcgcaadoor", sum := "b34ea8d455c3eafac9826347910051051d32a8fbf16ea798cac69cba75ecbb40", func := "roundhouse/roundhouselaw01.FdsetParts", spec := "fdsetParts", unfollowed := true, recurses := true, named := ["math/bits.deBruijn32tab", "internal/strconv.uint64pow10", "math/bits.deBruijn64tab"], apart := false, laid := [("math/bits.deBruijn32tab", laid_math_bits_deBruijn32tab), ("math/bits.deBruijn64tab", laid_math_bits_deBruijn64tab), ("internal/strconv.uint64pow10", laid_internal_strconv_uint64pow10)], narrowed := true }
def FdsetPartsUptoSaid : Prop := fdsetPartsUptoRow.holds Tryd.pinned (OpenSpec.upto fdsetPartsSpec)

/-- 'roundhouselaw01.FdsetSteps', WHERE WHAT IT READS IS OF BULK AT MOST 1048576: true; the input reads as it did. -/
def fdsetStepsUptoRow : OpenClaim := { program := "ythpinbngggcgcaadoor", sum := "b34ea8d455c3eafac9826347910051051d32a8fbf16ea798cac69cba75ecbb40", func := "roundhouse/roundhouselaw01.FdsetSteps", spec := "fdsetSteps", unfollowed := true, recurses := true, named := ["math/bits.deBruijn32tab", "internal/strconv.uint64pow10", "math/bits.deBruijn64tab"], apart := false, laid := [("math/bits.deBruijn32tab", laid_math_bits_deBruijn32tab), ("math/bits.deBruijn64tab", laid_math_bits_deBruijn64tab), ("internal/strconv.uint64pow10", laid_internal_strconv_uint64pow10)], narrowed := true }
def FdsetStepsUptoSaid : Prop := fdsetStepsUptoRow.holds Tryd.pinned (OpenSpec.upto fdsetStepsSpec)

/-- 'roundhouselaw01.FdsetCounts', WHERE WHAT IT READS IS OF BULK AT MOST 1048576: true; the input reads as it did. -/
def fdsetCountsUptoRow : OpenClaim := { program := "ythpinbngggcgcaadoor", sum := "b34ea8d455c3eafac9826347910051051d32a8fbf16ea798cac69cba75ecbb40", func := "roundhouse/roundhouselaw01.FdsetCounts", spec := "fdsetCounts", unfollowed := true, recurses := true, named := ["math/bits.deBruijn32tab", "internal/strconv.uint64pow10", "math/bits.deBruijn64tab"], apart := false, laid := [("math/bits.deBruijn32tab", laid_math_bits_deBruijn32tab), ("math/bits.deBruijn64tab", laid_math_bits_deBruijn64tab), ("internal/strconv.uint64pow10", laid_internal_strconv_uint64pow10)], narrowed := true }
def FdsetCountsUptoSaid : Prop := fdsetCountsUptoRow.holds Tryd.pinned (OpenSpec.upto fdsetCountsSpec)

/-- 'roundhouselaw01.FdsetOne', WHERE WHAT IT READS IS OF BULK AT MOST 1048576: true; the input reads as it did. -/
def fdsetOneUptoRow : OpenClaim := { program := "ythpinbngggcgcaadoor", sum := "b34ea8d455c3eafac9826347910051051d32a8fbf16ea798cac69cba75ecbb40", func := "roundhouse/roundhouselaw01.FdsetOne", spec := "fdsetOne", unfollowed := true, recurses := true, named := ["math/bits.deBruijn32tab", "internal/strconv.uint64pow10", "math/bits.deBruijn64tab"], apart := false, laid := [("math/bits.deBruijn32tab", laid_math_bits_deBruijn32tab), ("math/bits.deBruijn64tab", laid_math_bits_deBruijn64tab), ("internal/strconv.uint64pow10", laid_internal_strconv_uint64pow10)], narrowed := true }
def FdsetOneUptoSaid : Prop := fdsetOneUptoRow.holds Tryd.pinned (OpenSpec.upto fdsetOneSpec)

end Rows
end Go.Proofs.YthpinbngggcgcaaDoor
