/-
  NARROWER THAN 'FOR EVERY INPUT', by the rows' own cells (each row's printed sentence says how): FlagWords: laid · FlagDrivers: laid · FlagNames: laid · FlagBack: laid · FlagChoice: laid · FlagJoins: laid.
  DERIVED. THE GIVEN ROWS OF THIS SEAT. 6 by the template 'for every input the law returns true; each argument reads behind the call as it read before'; 0 by the template 'total and deterministic' (their statements: YtbpgoopmfofcnaaDoorTotals.lean).
  GIVEN WITH THE SEED: the statements are not yours to turn. If you find one false, say at which input.
  Laid BY PROGRAM, IN A SANDBOX (cutbox-rows.mjs): the forced cells as the released guide's own fill.sh prints them over the translation dddea2cead91f98f… (all of the seat's roots in one cut). By AI agents, Wed Nov 11 2026. No macro, syntax, notation, axiom, sorry.
-/
import Derived.Test.YtbpgoopmfofcnaaDoorChecked
import GoSem.Claim
import GoSem.ClaimJoined
import GoSem.ClaimMapViews
import Derived.JoinedTies
import Derived.KernelRfl
namespace Go.Proofs.YtbpgoopmfofcnaaDoor
/- THE CELL 'sum', in the pinned program and in every row, IS THE sha256 OF THE DUMP (.gsa) THAT YtbpgoopmfofcnaaDoorProg.lean LOADS. Nothing in Lean hashes anything: it is a label: what it is worth is what the hold of that sum in a sandbox is worth. -/
noncomputable def Tryd.pinned : Pinned := { name := "ytbpgoopmfofcnaadoor", sum := "dddea2cead91f98f88a0de9ccac658d95f2594538b992f8566613403da84883d", checked := Tryd.checked }
namespace Rows
def none {H : Type} : Left H := { results := [], args := [] }

/- WHAT THE LISTED PACKAGE-LEVEL VARIABLES READ AS WHEN THE CALL BEGINS. Each datum BY PROGRAM (the guide's laid-datum.mjs) off the statement by which the dump's own 'gosem.cut.vars' lays the variable. In a bare row this is a premise. The card (YtbpgoopmfofcnaaDoorCards.lean) ties it to the program's text. -/
def laid_roundhouse_flag_flagWords {H : Type} : DataW H := .agg [.lit (.string [116, 105, 109, 101, 111, 117, 116]), .lit (.string [114, 101, 97, 100]), .lit (.string [119, 114, 105, 116, 101]), .lit (.string [115, 105, 103, 110, 97, 108]), .lit (.string [112, 101, 114, 115, 105, 115, 116]), .lit (.string [101, 100, 103, 101])]
def laid_roundhouse_flag_featureWords {H : Type} : DataW H := .agg [.lit (.string [101, 100, 103, 101]), .lit (.string [98, 105, 103]), .lit (.string [115, 105, 103, 110, 97, 108, 115]), .lit (.string [99, 104, 97, 110, 103, 101, 115])]
def laid_roundhouse_flag_drivers {H : Type} : DataW H := .agg [.agg [.lit (.int .i64 4), .lit (.string [107, 113, 117, 101, 117, 101]), .lit (.int .i64 15)], .agg [.lit (.int .i64 3), .lit (.string [101, 112, 111, 108, 108]), .lit (.int .i64 11)], .agg [.lit (.int .i64 2), .lit (.string [112, 111, 108, 108]), .lit (.int .i64 2)], .agg [.lit (.int .i64 1), .lit (.string [115, 101, 108, 101, 99, 116]), .lit (.int .i64 0)]]

/-- 'roundhouselaw05.FlagWords': WHATEVER THE INPUT: true; the input reads as it did. -/
def flagWordsSpec : ChangeSpec := { name := "flagWords", fn := fun _ => fun
  | [d1, d2] => { results := [.lit (.bool true)], args := [d1, d2] }
  | _ => none }
def flagWordsRow : OpenClaim := { program := "ytbpgoopmfofcnaadoor", sum := "dddea2cead91f98f88a0de9ccac658d95f2594538b992f8566613403da84883d", func := "roundhouse/roundhouselaw05.FlagWords", spec := "flagWords", inPlace := ["internal/abi.NoEscape", "internal/bytealg.MakeNoZero", "internal/bytealg.IndexByteString", "internal/bytealg.IndexString"], unfollowed := true, recurses := true, named := ["roundhouse/flag.flagWords", "roundhouse/flag.featureWords", "internal/bytealg.MaxLen"], apart := false, laid := [("roundhouse/flag.flagWords", laid_roundhouse_flag_flagWords), ("roundhouse/flag.featureWords", laid_roundhouse_flag_featureWords)] }
def FlagWordsSaid : Prop := flagWordsRow.holds Tryd.pinned (OpenSpec.ofChange flagWordsSpec)

/-- ITS FALSE NEIGHBOUR: 'it returns false'. Refute it at one input. -/
def flagWordsWrong : ChangeSpec := { name := "flagWords", fn := fun _ => fun
  | [d1, d2] => { results := [.lit (.bool false)], args := [d1, d2] }
  | _ => none }
def FlagWordsWrongFalsely : Prop := flagWordsRow.holds Tryd.pinned (OpenSpec.ofChange flagWordsWrong)

/-- 'roundhouselaw05.FlagDrivers': WHATEVER THE INPUT: true; the input reads as it did. -/
def flagDriversSpec : ChangeSpec := { name := "flagDrivers", fn := fun _ => fun
  | [d1, d2, d3, d4, d5] => { results := [.lit (.bool true)], args := [d1, d2, d3, d4, d5] }
  | _ => none }
def flagDriversRow : OpenClaim := { program := "ytbpgoopmfofcnaadoor", sum := "dddea2cead91f98f88a0de9ccac658d95f2594538b992f8566613403da84883d", func := "roundhouse/roundhouselaw05.FlagDrivers", spec := "flagDrivers", named := ["roundhouse/flag.drivers"], apart := false, laid := [("roundhouse/flag.drivers", laid_roundhouse_flag_drivers)] }
def FlagDriversSaid : Prop := flagDriversRow.holds Tryd.pinned (OpenSpec.ofChange flagDriversSpec)

/-- ITS FALSE NEIGHBOUR: 'it returns false'. Refute it at one input. -/
def flagDriversWrong : ChangeSpec := { name := "flagDrivers", fn := fun _ => fun
  | [d1, d2, d3, d4, d5] => { results := [.lit (.bool false)], args := [d1, d2, d3, d4, d5] }
  | _ => none }
def FlagDriversWrongFalsely : Prop := flagDriversRow.holds Tryd.pinned (OpenSpec.ofChange flagDriversWrong)

/-- 'roundhouselaw05.FlagNames': WHATEVER THE INPUT: true; the input reads as it did. -/
def flagNamesSpec : ChangeSpec := { name := "flagNames", fn := fun _ => fun
  | [] => { results := [.lit (.bool true)], args := [] }
  | _ => none }
def flagNamesRow : OpenClaim := { program := "ytbpgoopmfofcnaadoor", sum := "dddea2cead91f98f88a0de9ccac658d95f2594538b992f8566613403da84883d", func := "roundhouse/roundhouselaw05.FlagNames", spec := "flagNames", inPlace := ["internal/abi.NoEscape", "internal/bytealg.MakeNoZero", "internal/bytealg.IndexByteString", "internal/bytealg.IndexString"], unfollowed := true, recurses := true, named := ["roundhouse/flag.flagWords", "roundhouse/flag.drivers", "internal/bytealg.MaxLen"], apart := false, laid := [("roundhouse/flag.drivers", laid_roundhouse_flag_drivers), ("roundhouse/flag.flagWords", laid_roundhouse_flag_flagWords)] }
def FlagNamesSaid : Prop := flagNamesRow.holds Tryd.pinned (OpenSpec.ofChange flagNamesSpec)

/-- ITS FALSE NEIGHBOUR: 'it returns false'. Refute it at one input. -/
def flagNamesWrong : ChangeSpec := { name := "flagNames", fn := fun _ => fun
  | [] => { results := [.lit (.bool false)], args := [] }
  | _ => none }
def FlagNamesWrongFalsely : Prop := flagNamesRow.holds Tryd.pinned (OpenSpec.ofChange flagNamesWrong)

/-- 'roundhouselaw05.FlagBack': WHATEVER THE INPUT: true; the input reads as it did. -/
def flagBackSpec : ChangeSpec := { name := "flagBack", fn := fun _ => fun
  | [d1, d2] => { results := [.lit (.bool true)], args := [d1, d2] }
  | _ => none }
def flagBackRow : OpenClaim := { program := "ytbpgoopmfofcnaadoor", sum := "dddea2cead91f98f88a0de9ccac658d95f2594538b992f8566613403da84883d", func := "roundhouse/roundhouselaw05.FlagBack", spec := "flagBack", inPlace := ["internal/abi.NoEscape", "internal/bytealg.MakeNoZero", "internal/bytealg.IndexByteString", "internal/bytealg.IndexString"], unfollowed := true, recurses := true, named := ["roundhouse/flag.flagWords", "roundhouse/flag.drivers", "internal/bytealg.MaxLen", "roundhouse/flag.featureWords"], apart := false, laid := [("roundhouse/flag.drivers", laid_roundhouse_flag_drivers), ("roundhouse/flag.flagWords", laid_roundhouse_flag_flagWords), ("roundhouse/flag.featureWords", laid_roundhouse_flag_featureWords)] }
def FlagBackSaid : Prop := flagBackRow.holds Tryd.pinned (OpenSpec.ofChange flagBackSpec)

/-- ITS FALSE NEIGHBOUR: 'it returns false'. Refute it at one input. -/
def flagBackWrong : ChangeSpec := { name := "flagBack", fn := fun _ => fun
  | [d1, d2] => { results := [.lit (.bool false)], args := [d1, d2] }
  | _ => none }
def FlagBackWrongFalsely : Prop := flagBackRow.holds Tryd.pinned (OpenSpec.ofChange flagBackWrong)

/-- 'roundhouselaw05.FlagChoice': WHATEVER THE INPUT: true; the input reads as it did. -/
def flagChoiceSpec : ChangeSpec := { name := "flagChoice", fn := fun _ => fun
  | [d1, d2, d3, d4, d5, d6] => { results := [.lit (.bool true)], args := [d1, d2, d3, d4, d5, d6] }
  | _ => none }
def flagChoiceRow : OpenClaim := { program := "ytbpgoopmfofcnaadoor", sum := "dddea2cead91f98f88a0de9ccac658d95f2594538b992f8566613403da84883d", func := "roundhouse/roundhouselaw05.FlagChoice", spec := "flagChoice", inPlace := ["internal/abi.NoEscape", "internal/bytealg.MakeNoZero"], unfollowed := true, recurses := true, named := ["roundhouse/flag.flagWords", "roundhouse/flag.drivers"], apart := false, laid := [("roundhouse/flag.drivers", laid_roundhouse_flag_drivers), ("roundhouse/flag.flagWords", laid_roundhouse_flag_flagWords)] }
def FlagChoiceSaid : Prop := flagChoiceRow.holds Tryd.pinned (OpenSpec.ofChange flagChoiceSpec)

/-- ITS FALSE NEIGHBOUR: 'it returns false'. Refute it at one input. -/
def flagChoiceWrong : ChangeSpec := { name := "flagChoice", fn := fun _ => fun
  | [d1, d2, d3, d4, d5, d6] => { results := [.lit (.bool false)], args := [d1, d2, d3, d4, d5, d6] }
  | _ => none }
def FlagChoiceWrongFalsely : Prop := flagChoiceRow.holds Tryd.pinned (OpenSpec.ofChange flagChoiceWrong)

/-- 'roundhouselaw05.FlagJoins': WHATEVER THE INPUT: true; the input reads as it did. -/
def flagJoinsSpec : ChangeSpec := { name := "flagJoins", fn := fun _ => fun
  | [d1, d2, d3, d4] => { results := [.lit (.bool true)], args := [d1, d2, d3, d4] }
  | _ => none }
def flagJoinsRow : OpenClaim := { program := "ytbpgoopmfofcnaadoor", sum := "dddea2cead91f98f88a0de9ccac658d95f2594538b992f8566613403da84883d", func := "roundhouse/roundhouselaw05.FlagJoins", spec := "flagJoins", inPlace := ["internal/abi.NoEscape", "internal/bytealg.MakeNoZero", "internal/bytealg.IndexByteString", "internal/bytealg.IndexString"], unfollowed := true, recurses := true, named := ["roundhouse/flag.flagWords", "roundhouse/flag.drivers", "internal/bytealg.MaxLen"], apart := false, laid := [("roundhouse/flag.drivers", laid_roundhouse_flag_drivers), ("roundhouse/flag.flagWords", laid_roundhouse_flag_flagWords)] }
def FlagJoinsSaid : Prop := flagJoinsRow.holds Tryd.pinned (OpenSpec.ofChange flagJoinsSpec)

/-- ITS FALSE NEIGHBOUR: 'it returns false'. Refute it at one input. -/
def flagJoinsWrong : ChangeSpec := { name := "flagJoins", fn := fun _ => fun
  | [d1, d2, d3, d4] => { results := [.lit (.bool false)], args := [d1, d2, d3, d4] }
  | _ => none }
def FlagJoinsWrongFalsely : Prop := flagJoinsRow.holds Tryd.pinned (OpenSpec.ofChange flagJoinsWrong)

/- THE SECOND FORM. 'bulk': how many values and letters a reading holds, each counted each time it is reached (what is shared counts as often as it is met; a slice's spare places count too). A statement '..UptoSaid' is the law's where the arguments, and the package variables that the reading takes, are together of bulk at most 1048576: NARROWER than '..Said'. Prove '..Said' where nothing that the law and all that it calls make is longer than what came in: it says more and counts as full. Else prove '..UptoSaid'. A law counts once. -/
mutual
def uptoBulk {H : Type} : DataW H → Nat
  | .lit (.string bytes) => bytes.length + 1
  | .lit _ => 1
  | .nil => 1
  | .ptr d => uptoBulk d + 1
  | .slice elems spare => uptoBulkAll elems + uptoBulkAll spare + 1
  | .agg parts => uptoBulkAll parts + 1
  | .iface _ d => uptoBulk d + 1
  | .map entries => uptoBulkEntries entries + 1
  | .held _ => 1
def uptoBulkAll {H : Type} : List (DataW H) → Nat
  | [] => 0
  | d :: r => uptoBulk d + uptoBulkAll r
def uptoBulkEntries {H : Type} : List (Lit × DataW H) → Nat
  | [] => 0
  | x :: r => uptoBulkEntry x + uptoBulkEntries r
def uptoBulkEntry {H : Type} : Lit × DataW H → Nat
  | (.string bytes, d) => bytes.length + uptoBulk d + 1
  | (_, d) => uptoBulk d + 1
 end
def uptoSmall : (H : Type) → List (DataW H) → Bool := fun _ ds => decide (uptoBulkAll ds ≤ 1048576)
def OpenSpec.upto (s : _root_.Go.ChangeSpec) : _root_.Go.OpenSpec := { _root_.Go.OpenSpec.ofChange s with cond := some uptoSmall }

/-- 'roundhouselaw05.FlagWords', WHERE WHAT IT READS IS OF BULK AT MOST 1048576: true; the input reads as it did. -/
def flagWordsUptoRow : OpenClaim := { program := "ytbpgoopmfofcnaadoor", sum := "dddea2cead91f98f88a0de9ccac658d95f2594538b992f8566613403da84883d", func := "roundhouse/roundhouselaw05.FlagWords", spec := "flagWords", inPlace := ["internal/abi.NoEscape", "internal/bytealg.MakeNoZero", "internal/bytealg.IndexByteString", "internal/bytealg.IndexString"], unfollowed := true, recurses := true, named := ["roundhouse/flag.flagWords", "roundhouse/flag.featureWords", "internal/bytealg.MaxLen"], apart := false, laid := [("roundhouse/flag.flagWords", laid_roundhouse_flag_flagWords), ("roundhouse/flag.featureWords", laid_roundhouse_flag_featureWords)], narrowed := true }
def FlagWordsUptoSaid : Prop := flagWordsUptoRow.holds Tryd.pinned (OpenSpec.upto flagWordsSpec)

/-- 'roundhouselaw05.FlagDrivers', WHERE WHAT IT READS IS OF BULK AT MOST 1048576: true; the input reads as it did. -/
def flagDriversUptoRow : OpenClaim := { program := "ytbpgoopmfofcnaadoor", sum := "dddea2cead91f98f88a0de9ccac658d95f2594538b992f8566613403da84883d", func := "roundhouse/roundhouselaw05.FlagDrivers", spec := "flagDrivers", named := ["roundhouse/flag.drivers"], apart := false, laid := [("roundhouse/flag.drivers", laid_roundhouse_flag_drivers)], narrowed := true }
def FlagDriversUptoSaid : Prop := flagDriversUptoRow.holds Tryd.pinned (OpenSpec.upto flagDriversSpec)

/-- 'roundhouselaw05.FlagNames', WHERE WHAT IT READS IS OF BULK AT MOST 1048576: true; the input reads as it did. -/
def flagNamesUptoRow : OpenClaim := { program := "ytbpgoopmfofcnaadoor", sum := "dddea2cead91f98f88a0de9ccac658d95f2594538b992f8566613403da84883d", func := "roundhouse/roundhouselaw05.FlagNames", spec := "flagNames", inPlace := ["internal/abi.NoEscape", "internal/bytealg.MakeNoZero", "internal/bytealg.IndexByteString", "internal/bytealg.IndexString"], unfollowed := true, recurses := true, named := ["roundhouse/flag.flagWords", "roundhouse/flag.drivers", "internal/bytealg.MaxLen"], apart := false, laid := [("roundhouse/flag.drivers", laid_roundhouse_flag_drivers), ("roundhouse/flag.flagWords", laid_roundhouse_flag_flagWords)], narrowed := true }
def FlagNamesUptoSaid : Prop := flagNamesUptoRow.holds Tryd.pinned (OpenSpec.upto flagNamesSpec)

/-- 'roundhouselaw05.FlagBack', WHERE WHAT IT READS IS OF BULK AT MOST 1048576: true; the input reads as it did. -/
def flagBackUptoRow : OpenClaim := { program := "ytbpgoopmfofcnaadoor", sum := "dddea2cead91f98f88a0de9ccac658d95f2594538b992f8566613403da84883d", func := "roundhouse/roundhouselaw05.FlagBack", spec := "flagBack", inPlace := ["internal/abi.NoEscape", "internal/bytealg.MakeNoZero", "internal/bytealg.IndexByteString", "internal/bytealg.IndexString"], unfollowed := true, recurses := true, named := ["roundhouse/flag.flagWords", "roundhouse/flag.drivers", "internal/bytealg.MaxLen", "roundhouse/flag.featureWords"], apart := false, laid := [("roundhouse/flag.drivers", laid_roundhouse_flag_drivers), ("roundhouse/flag.flagWords", laid_roundhouse_flag_flagWords), ("roundhouse/flag.featureWords", laid_roundhouse_flag_featureWords)], narrowed := true }
def FlagBackUptoSaid : Prop := flagBackUptoRow.holds Tryd.pinned (OpenSpec.upto flagBackSpec)

/-- 'roundhouselaw05.FlagChoice', WHERE WHAT IT READS IS OF BULK AT MOST 1048576: true; the input reads as it did. -/
def flagChoiceUptoRow : OpenClaim := { program := "ytbpgoopmfofcnaadoor", sum := "dddea2cead91f98f88a0de9ccac658d95f2594538b992f8566613403da84883d", func := "roundhouse/roundhouselaw05.FlagChoice", spec := "flagChoice", inPlace := ["internal/abi.NoEscape", "internal/bytealg.MakeNoZero"], unfollowed := true, recurses := true, named := ["roundhouse/flag.flagWords", "roundhouse/flag.drivers"], apart := false, laid := [("roundhouse/flag.drivers", laid_roundhouse_flag_drivers), ("roundhouse/flag.flagWords", laid_roundhouse_flag_flagWords)], narrowed := true }
def FlagChoiceUptoSaid : Prop := flagChoiceUptoRow.holds Tryd.pinned (OpenSpec.upto flagChoiceSpec)

/-- 'roundhouselaw05.FlagJoins', WHERE WHAT IT READS IS OF BULK AT MOST 1048576: true; the input reads as it did. -/
def flagJoinsUptoRow : OpenClaim := { program := "ytbpgoopmfofcnaadoor", sum := "dddea2cead91f98f88a0de9ccac658d95f2594538b992f8566613403da84883d", func := "roundhouse/roundhouselaw05.FlagJoins", spec := "flagJoins", inPlace := ["internal/abi.NoEscape", "internal/bytealg.MakeNoZero", "internal/bytealg.IndexByteString", "internal/bytealg.IndexString"], unfollowed := true, recurses := true, named := ["roundhouse/flag.flagWords", "roundhouse/flag.drivers", "internal/bytealg.MaxLen"], apart := false, laid := [("roundhouse/flag.drivers", laid_roundhouse_flag_drivers), ("roundhouse/flag.flagWords", laid_roundhouse_flag_flagWords)], narrowed := true }
def FlagJoinsUptoSaid : Prop := flagJoinsUptoRow.holds Tryd.pinned (OpenSpec.upto flagJoinsSpec)

end Rows
end Go.Proofs.YtbpgoopmfofcnaaDoor
