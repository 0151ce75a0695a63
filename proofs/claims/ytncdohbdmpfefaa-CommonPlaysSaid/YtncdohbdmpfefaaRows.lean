/-
  No cell of these rows narrows 'for every input' (looked for: loops, veiled, ifaces, maps, wideKeys, modest, calm, conditions, laid).
  DERIVED. THE GIVEN ROWS OF THIS SEAT. 6 by the template 'for every input the law returns true; each argument reads behind the call as it read before'; 0 by the template 'total and deterministic' (their statements: YtncdohbdmpfefaaTotals.lean).
  GIVEN WITH THE SEED: the statements are not yours to turn. If you find one false, say at which input.
  Laid BY PROGRAM, IN A SANDBOX (cutbox-rows.mjs): the forced cells as the released guide's own fill.sh prints them over the translation 19c5e2082d60d339… (all of the seat's roots in one cut). By AI agents, Wed Nov 11 2026. No macro, syntax, notation, axiom, sorry.
-/
import Derived.Test.YtncdohbdmpfefaaChecked
import GoSem.Claim
import GoSem.ClaimJoined
import GoSem.ClaimMapViews
import Derived.JoinedTies
import Derived.KernelRfl
namespace Go.Proofs.Ytncdohbdmpfefaa
/- THE CELL 'sum', in the pinned program and in every row, IS THE sha256 OF THE DUMP (.gsa) THAT YtncdohbdmpfefaaProg.lean LOADS. Nothing in Lean hashes anything: it is a label: what it is worth is what the hold of that sum in a sandbox is worth. -/
noncomputable def Try.pinned : Pinned := { name := "ytncdohbdmpfefaa", sum := "19c5e2082d60d33924e80f6449e44c7734c5c1b58158968a99644a3768bef916", checked := Try.checked }
namespace Rows
def none {H : Type} : Left H := { results := [], args := [] }

/-- 'roundhouselaw09.CommonPlays': WHATEVER THE INPUT: true; the input reads as it did. -/
def commonPlaysSpec : ChangeSpec := { name := "commonPlays", fn := fun _ => fun
  | [d] => { results := [.lit (.bool true)], args := [d] }
  | _ => none }
def commonPlaysRow : OpenClaim := { program := "ytncdohbdmpfefaa", sum := "19c5e2082d60d33924e80f6449e44c7734c5c1b58158968a99644a3768bef916", func := "roundhouse/roundhouselaw09.CommonPlays", spec := "commonPlays", unfollowed := true, recurses := true, apart := false }
def CommonPlaysSaid : Prop := commonPlaysRow.holds Try.pinned (OpenSpec.ofChange commonPlaysSpec)

/-- ITS FALSE NEIGHBOUR: 'it returns false'. Refute it at one input. -/
def commonPlaysWrong : ChangeSpec := { name := "commonPlays", fn := fun _ => fun
  | [d] => { results := [.lit (.bool false)], args := [d] }
  | _ => none }
def CommonPlaysWrongFalsely : Prop := commonPlaysRow.holds Try.pinned (OpenSpec.ofChange commonPlaysWrong)

/-- 'roundhouselaw09.CommonNames': WHATEVER THE INPUT: true; the input reads as it did. -/
def commonNamesSpec : ChangeSpec := { name := "commonNames", fn := fun _ => fun
  | [] => { results := [.lit (.bool true)], args := [] }
  | _ => none }
def commonNamesRow : OpenClaim := { program := "ytncdohbdmpfefaa", sum := "19c5e2082d60d33924e80f6449e44c7734c5c1b58158968a99644a3768bef916", func := "roundhouse/roundhouselaw09.CommonNames", spec := "commonNames", unfollowed := true, recurses := true, apart := false }
def CommonNamesSaid : Prop := commonNamesRow.holds Try.pinned (OpenSpec.ofChange commonNamesSpec)

/-- ITS FALSE NEIGHBOUR: 'it returns false'. Refute it at one input. -/
def commonNamesWrong : ChangeSpec := { name := "commonNames", fn := fun _ => fun
  | [] => { results := [.lit (.bool false)], args := [] }
  | _ => none }
def CommonNamesWrongFalsely : Prop := commonNamesRow.holds Try.pinned (OpenSpec.ofChange commonNamesWrong)

/-- 'roundhouselaw09.CommonAlike': WHATEVER THE INPUT: true; the input reads as it did. -/
def commonAlikeSpec : ChangeSpec := { name := "commonAlike", fn := fun _ => fun
  | [d1, d2] => { results := [.lit (.bool true)], args := [d1, d2] }
  | _ => none }
def commonAlikeRow : OpenClaim := { program := "ytncdohbdmpfefaa", sum := "19c5e2082d60d33924e80f6449e44c7734c5c1b58158968a99644a3768bef916", func := "roundhouse/roundhouselaw09.CommonAlike", spec := "commonAlike", unfollowed := true, recurses := true, apart := false }
def CommonAlikeSaid : Prop := commonAlikeRow.holds Try.pinned (OpenSpec.ofChange commonAlikeSpec)

/-- ITS FALSE NEIGHBOUR: 'it returns false'. Refute it at one input. -/
def commonAlikeWrong : ChangeSpec := { name := "commonAlike", fn := fun _ => fun
  | [d1, d2] => { results := [.lit (.bool false)], args := [d1, d2] }
  | _ => none }
def CommonAlikeWrongFalsely : Prop := commonAlikeRow.holds Try.pinned (OpenSpec.ofChange commonAlikeWrong)

/-- 'roundhouselaw09.CommonFew': WHATEVER THE INPUT: true; the input reads as it did. -/
def commonFewSpec : ChangeSpec := { name := "commonFew", fn := fun _ => fun
  | [d1, d2] => { results := [.lit (.bool true)], args := [d1, d2] }
  | _ => none }
def commonFewRow : OpenClaim := { program := "ytncdohbdmpfefaa", sum := "19c5e2082d60d33924e80f6449e44c7734c5c1b58158968a99644a3768bef916", func := "roundhouse/roundhouselaw09.CommonFew", spec := "commonFew", unfollowed := true, recurses := true, apart := false }
def CommonFewSaid : Prop := commonFewRow.holds Try.pinned (OpenSpec.ofChange commonFewSpec)

/-- ITS FALSE NEIGHBOUR: 'it returns false'. Refute it at one input. -/
def commonFewWrong : ChangeSpec := { name := "commonFew", fn := fun _ => fun
  | [d1, d2] => { results := [.lit (.bool false)], args := [d1, d2] }
  | _ => none }
def CommonFewWrongFalsely : Prop := commonFewRow.holds Try.pinned (OpenSpec.ofChange commonFewWrong)

/-- 'roundhouselaw09.CommonDue': WHATEVER THE INPUT: true; the input reads as it did. -/
def commonDueSpec : ChangeSpec := { name := "commonDue", fn := fun _ => fun
  | [d] => { results := [.lit (.bool true)], args := [d] }
  | _ => none }
def commonDueRow : OpenClaim := { program := "ytncdohbdmpfefaa", sum := "19c5e2082d60d33924e80f6449e44c7734c5c1b58158968a99644a3768bef916", func := "roundhouse/roundhouselaw09.CommonDue", spec := "commonDue", unfollowed := true, recurses := true, apart := false }
def CommonDueSaid : Prop := commonDueRow.holds Try.pinned (OpenSpec.ofChange commonDueSpec)

/-- ITS FALSE NEIGHBOUR: 'it returns false'. Refute it at one input. -/
def commonDueWrong : ChangeSpec := { name := "commonDue", fn := fun _ => fun
  | [d] => { results := [.lit (.bool false)], args := [d] }
  | _ => none }
def CommonDueWrongFalsely : Prop := commonDueRow.holds Try.pinned (OpenSpec.ofChange commonDueWrong)

/-- 'roundhouselaw09.CommonLeaves': WHATEVER THE INPUT: true; the input reads as it did. -/
def commonLeavesSpec : ChangeSpec := { name := "commonLeaves", fn := fun _ => fun
  | [d1, d2, d3, d4, d5] => { results := [.lit (.bool true)], args := [d1, d2, d3, d4, d5] }
  | _ => none }
def commonLeavesRow : OpenClaim := { program := "ytncdohbdmpfefaa", sum := "19c5e2082d60d33924e80f6449e44c7734c5c1b58158968a99644a3768bef916", func := "roundhouse/roundhouselaw09.CommonLeaves", spec := "commonLeaves", unfollowed := true, recurses := true, apart := false }
def CommonLeavesSaid : Prop := commonLeavesRow.holds Try.pinned (OpenSpec.ofChange commonLeavesSpec)

/-- ITS FALSE NEIGHBOUR: 'it returns false'. Refute it at one input. -/
def commonLeavesWrong : ChangeSpec := { name := "commonLeaves", fn := fun _ => fun
  | [d1, d2, d3, d4, d5] => { results := [.lit (.bool false)], args := [d1, d2, d3, d4, d5] }
  | _ => none }
def CommonLeavesWrongFalsely : Prop := commonLeavesRow.holds Try.pinned (OpenSpec.ofChange commonLeavesWrong)

/- THE SECOND FORM. 'bulk': how many values and letters a reading holds, each counted each time it is reached (what is shared counts as often as it is met; a slice's spare places count too). A statement '..UptoSaid' is the law's where the arguments, and the package variables that the reading takes, are together of bulk at most 1048576: NARROWER than '..Said'. Prove '..Said' where nothing that the law and all that it calls make is longer than what came in: it says more and counts as full. Else prove '..UptoSaid'. A law counts once. -/
mutual
def uptoBulk {H : Type} : DataW H → Nat
  | .lit (.string bytes) => bytes.length + 1
  | .lit _ => 1
  | .nil => 1
  | .ptr d => uptoBulk d + 1
  | .slice elems spare => uptoBulkAll elems + uptoBulkAll spare + 1
  | .agg parts => uptoBulkAll parts + 1
  | .iface _ d => uptoBulk d + 1
  | .map entries => uptoBulkEntries entries + 1
  | .held _ => 1
def uptoBulkAll {H : Type} : List (DataW H) → Nat
  | [] => 0
  | d :: r => uptoBulk d + uptoBulkAll r
def uptoBulkEntries {H : Type} : List (Lit × DataW H) → Nat
  | [] => 0
  | x :: r => uptoBulkEntry x + uptoBulkEntries r
def uptoBulkEntry {H : Type} : Lit × DataW H → Nat
  | (.string bytes, d) => bytes.length + uptoBulk d + 1
  | (_, d) => uptoBulk d + 1
 end
def uptoSmall : (H : Type) → List (DataW H) → Bool := fun _ ds => decide (uptoBulkAll ds ≤ 1048576)
def OpenSpec.upto (s : _root_.Go.ChangeSpec) : _root_.Go.OpenSpec := { _root_.Go.OpenSpec.ofChange s with cond := some uptoSmall }

/-- 'roundhouselaw09.CommonPlays', WHERE WHAT IT READS IS OF BULK AT MOST 1048576: true; the input reads as it did. -/
def commonPlaysUptoRow : OpenClaim := { program := "ytncdohbdmpfefaa", sum := "19c5e2082d60d33924e80f6449e44c7734c5c1b58158968a99644a3768bef916", func := "roundhouse/roundhouselaw09.CommonPlays", spec := "commonPlays", unfollowed := true, recurses := true, apart := false, narrowed := true }
def CommonPlaysUptoSaid : Prop := commonPlaysUptoRow.holds Try.pinned (OpenSpec.upto commonPlaysSpec)

/-- 'roundhouselaw09.CommonNames', WHERE WHAT IT READS IS OF BULK AT MOST 1048576: true; the input reads as it did. -/
def commonNamesUptoRow : OpenClaim := { program := "ytncdohbdmpfefaa", sum := "19c5e2082d60d33924e80f6449e44c7734c5c1b58158968a99644a3768bef916", func := "roundhouse/roundhouselaw09.CommonNames", spec := "commonNames", unfollowed := true, recurses := true, apart := false, narrowed := true }
def CommonNamesUptoSaid : Prop := commonNamesUptoRow.holds Try.pinned (OpenSpec.upto commonNamesSpec)

/-- 'roundhouselaw09.CommonAlike', WHERE WHAT IT READS IS OF BULK AT MOST 1048576: true; the input reads as it did. -/
def commonAlikeUptoRow : OpenClaim := { program := "ytncdohbdmpfefaa", sum := "19c5e2082d60d33924e80f6449e44c7734c5c1b58158968a99644a3768bef916", func := "roundhouse/roundhouselaw09.CommonAlike", spec := "commonAlike", unfollowed := true, recurses := true, apart := false, narrowed := true }
def CommonAlikeUptoSaid : Prop := commonAlikeUptoRow.holds Try.pinned (OpenSpec.upto commonAlikeSpec)

/-- 'roundhouselaw09.CommonFew', WHERE WHAT IT READS IS OF BULK AT MOST 1048576: true; the input reads as it did. -/
def commonFewUptoRow : OpenClaim := { program := "ytncdohbdmpfefaa", sum := "19c5e2082d60d33924e80f6449e44c7734c5c1b58158968a99644a3768bef916", func := "roundhouse/roundhouselaw09.CommonFew", spec := "commonFew", unfollowed := true, recurses := true, apart := false, narrowed := true }
def CommonFewUptoSaid : Prop := commonFewUptoRow.holds Try.pinned (OpenSpec.upto commonFewSpec)

/-- 'roundhouselaw09.CommonDue', WHERE WHAT IT READS IS OF BULK AT MOST 1048576: true; the input reads as it did. -/
def commonDueUptoRow : OpenClaim := { program := "ytncdohbdmpfefaa", sum := "19c5e2082d60d33924e80f6449e44c7734c5c1b58158968a99644a3768bef916", func := "roundhouse/roundhouselaw09.CommonDue", spec := "commonDue", unfollowed := true, recurses := true, apart := false, narrowed := true }
def CommonDueUptoSaid : Prop := commonDueUptoRow.holds Try.pinned (OpenSpec.upto commonDueSpec)

/-- 'roundhouselaw09.CommonLeaves', WHERE WHAT IT READS IS OF BULK AT MOST 1048576: true; the input reads as it did. -/
def commonLeavesUptoRow : OpenClaim := { program := "ytncdohbdmpfefaa", sum := "19c5e2082d60d33924e80f6449e44c7734c5c1b58158968a99644a3768bef916", func := "roundhouse/roundhouselaw09.CommonLeaves", spec := "commonLeaves", unfollowed := true, recurses := true, apart := false, narrowed := true }
def CommonLeavesUptoSaid : Prop := commonLeavesUptoRow.holds Try.pinned (OpenSpec.upto commonLeavesSpec)

end Rows
end Go.Proofs.Ytncdohbdmpfefaa
