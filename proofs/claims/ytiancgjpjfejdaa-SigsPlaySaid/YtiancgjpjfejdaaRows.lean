/-
  No cell of these rows narrows 'for every input' (looked for: loops, veiled, ifaces, maps, wideKeys, modest, calm, conditions, laid).
  DERIVED. THE GIVEN ROWS OF THIS SEAT. 5 by the template 'for every input the law returns true; each argument reads behind the call as it read before'; 0 by the template 'total and deterministic' (their statements: YtiancgjpjfejdaaTotals.lean).
  GIVEN WITH THE SEED: the statements are not yours to turn. If you find one false, say at which input.
  Laid BY PROGRAM, IN A SANDBOX (cutbox-rows.mjs): the forced cells as the released guide's own fill.sh prints them over the translation 6d671a7bde2bda9b… (all of the seat's roots in one cut). By AI agents, Wed Nov 11 2026. No macro, syntax, notation, axiom, sorry.
-/
import Derived.Test.YtiancgjpjfejdaaChecked
import GoSem.Claim
import GoSem.ClaimJoined
import GoSem.ClaimMapViews
import Derived.JoinedTies
import Derived.KernelRfl
namespace Go.Proofs.Ytiancgjpjfejdaa
/- THE CELL 'sum', in the pinned program and in every row, IS THE sha256 OF THE DUMP (.gsa) THAT YtiancgjpjfejdaaProg.lean LOADS. Nothing in Lean hashes anything: it is a label: what it is worth is what the hold of that sum in a sandbox is worth. -/
noncomputable def Try.pinned : Pinned := { name := "ytiancgjpjfejdaa", sum := "6d671a7bde2bda9bc7421b6395f4e9ea0b106c318836f80a085d6597ea459ee6", checked := Try.checked }
namespace Rows
def none {H : Type} : Left H := { results := [], args := [] }

/-- 'roundhouselaw10.SigsPlay': WHATEVER THE INPUT: true; the input reads as it did. -/
def sigsPlaySpec : ChangeSpec := { name := "sigsPlay", fn := fun _ => fun
  | [d] => { results := [.lit (.bool true)], args := [d] }
  | _ => none }
def sigsPlayRow : OpenClaim := { program := "ytiancgjpjfejdaa", sum := "6d671a7bde2bda9bc7421b6395f4e9ea0b106c318836f80a085d6597ea459ee6", func := "roundhouse/roundhouselaw10.SigsPlay", spec := "sigsPlay", unfollowed := true, recurses := true, apart := false }
def SigsPlaySaid : Prop := sigsPlayRow.holds Try.pinned (OpenSpec.ofChange sigsPlaySpec)

/-- ITS FALSE NEIGHBOUR: 'it returns false'. Refute it at one input. -/
def sigsPlayWrong : ChangeSpec := { name := "sigsPlay", fn := fun _ => fun
  | [d] => { results := [.lit (.bool false)], args := [d] }
  | _ => none }
def SigsPlayWrongFalsely : Prop := sigsPlayRow.holds Try.pinned (OpenSpec.ofChange sigsPlayWrong)

/-- 'roundhouselaw10.SigsNames': WHATEVER THE INPUT: true; the input reads as it did. -/
def sigsNamesSpec : ChangeSpec := { name := "sigsNames", fn := fun _ => fun
  | [] => { results := [.lit (.bool true)], args := [] }
  | _ => none }
def sigsNamesRow : OpenClaim := { program := "ytiancgjpjfejdaa", sum := "6d671a7bde2bda9bc7421b6395f4e9ea0b106c318836f80a085d6597ea459ee6", func := "roundhouse/roundhouselaw10.SigsNames", spec := "sigsNames", unfollowed := true, recurses := true, apart := false }
def SigsNamesSaid : Prop := sigsNamesRow.holds Try.pinned (OpenSpec.ofChange sigsNamesSpec)

/-- ITS FALSE NEIGHBOUR: 'it returns false'. Refute it at one input. -/
def sigsNamesWrong : ChangeSpec := { name := "sigsNames", fn := fun _ => fun
  | [] => { results := [.lit (.bool false)], args := [] }
  | _ => none }
def SigsNamesWrongFalsely : Prop := sigsNamesRow.holds Try.pinned (OpenSpec.ofChange sigsNamesWrong)

/-- 'roundhouselaw10.SigsOnce': WHATEVER THE INPUT: true; the input reads as it did. -/
def sigsOnceSpec : ChangeSpec := { name := "sigsOnce", fn := fun _ => fun
  | [d1, d2] => { results := [.lit (.bool true)], args := [d1, d2] }
  | _ => none }
def sigsOnceRow : OpenClaim := { program := "ytiancgjpjfejdaa", sum := "6d671a7bde2bda9bc7421b6395f4e9ea0b106c318836f80a085d6597ea459ee6", func := "roundhouse/roundhouselaw10.SigsOnce", spec := "sigsOnce", unfollowed := true, recurses := true, apart := false }
def SigsOnceSaid : Prop := sigsOnceRow.holds Try.pinned (OpenSpec.ofChange sigsOnceSpec)

/-- ITS FALSE NEIGHBOUR: 'it returns false'. Refute it at one input. -/
def sigsOnceWrong : ChangeSpec := { name := "sigsOnce", fn := fun _ => fun
  | [d1, d2] => { results := [.lit (.bool false)], args := [d1, d2] }
  | _ => none }
def SigsOnceWrongFalsely : Prop := sigsOnceRow.holds Try.pinned (OpenSpec.ofChange sigsOnceWrong)

/-- 'roundhouselaw10.SigsApart': WHATEVER THE INPUT: true; the input reads as it did. -/
def sigsApartSpec : ChangeSpec := { name := "sigsApart", fn := fun _ => fun
  | [d1, d2] => { results := [.lit (.bool true)], args := [d1, d2] }
  | _ => none }
def sigsApartRow : OpenClaim := { program := "ytiancgjpjfejdaa", sum := "6d671a7bde2bda9bc7421b6395f4e9ea0b106c318836f80a085d6597ea459ee6", func := "roundhouse/roundhouselaw10.SigsApart", spec := "sigsApart", unfollowed := true, recurses := true, apart := false }
def SigsApartSaid : Prop := sigsApartRow.holds Try.pinned (OpenSpec.ofChange sigsApartSpec)

/-- ITS FALSE NEIGHBOUR: 'it returns false'. Refute it at one input. -/
def sigsApartWrong : ChangeSpec := { name := "sigsApart", fn := fun _ => fun
  | [d1, d2] => { results := [.lit (.bool false)], args := [d1, d2] }
  | _ => none }
def SigsApartWrongFalsely : Prop := sigsApartRow.holds Try.pinned (OpenSpec.ofChange sigsApartWrong)

/-- 'roundhouselaw10.SigsCopies': WHATEVER THE INPUT: true; the input reads as it did. -/
def sigsCopiesSpec : ChangeSpec := { name := "sigsCopies", fn := fun _ => fun
  | [d1, d2] => { results := [.lit (.bool true)], args := [d1, d2] }
  | _ => none }
def sigsCopiesRow : OpenClaim := { program := "ytiancgjpjfejdaa", sum := "6d671a7bde2bda9bc7421b6395f4e9ea0b106c318836f80a085d6597ea459ee6", func := "roundhouse/roundhouselaw10.SigsCopies", spec := "sigsCopies", unfollowed := true, recurses := true, apart := false }
def SigsCopiesSaid : Prop := sigsCopiesRow.holds Try.pinned (OpenSpec.ofChange sigsCopiesSpec)

/-- ITS FALSE NEIGHBOUR: 'it returns false'. Refute it at one input. -/
def sigsCopiesWrong : ChangeSpec := { name := "sigsCopies", fn := fun _ => fun
  | [d1, d2] => { results := [.lit (.bool false)], args := [d1, d2] }
  | _ => none }
def SigsCopiesWrongFalsely : Prop := sigsCopiesRow.holds Try.pinned (OpenSpec.ofChange sigsCopiesWrong)

/- THE SECOND FORM. 'bulk': how many values and letters a reading holds, each counted each time it is reached (what is shared counts as often as it is met; a slice's spare places count too). A statement '..UptoSaid' is the law's where the arguments, and the package variables that the reading takes, are together of bulk at most 1048576: NARROWER than '..Said'. Prove '..Said' where nothing that the law and all that it calls make is longer than what came in: it says more and counts as full. Else prove '..UptoSaid'. A law counts once. -/
mutual
def uptoBulk {H : Type} : DataW H → Nat
  | .lit (.string bytes) => bytes.length + 1
  | .lit _ => 1
  | .nil => 1
  | .ptr d => uptoBulk d + 1
  | .slice elems spare => uptoBulkAll elems + uptoBulkAll spare + 1
  | .agg parts => uptoBulkAll parts + 1
  | .iface _ d => uptoBulk d + 1
  | .map entries => uptoBulkEntries entries + 1
  | .held _ => 1
def uptoBulkAll {H : Type} : List (DataW H) → Nat
  | [] => 0
  | d :: r => uptoBulk d + uptoBulkAll r
def uptoBulkEntries {H : Type} : List (Lit × DataW H) → Nat
  | [] => 0
  | x :: r => uptoBulkEntry x + uptoBulkEntries r
def uptoBulkEntry {H : Type} : Lit × DataW H → Nat
  | (.string bytes, d) => bytes.length + uptoBulk d + 1
  | (_, d) => uptoBulk d + 1
 end
def uptoSmall : (H : Type) → List (DataW H) → Bool := fun _ ds => decide (uptoBulkAll ds ≤ 1048576)
def OpenSpec.upto (s : _root_.Go.ChangeSpec) : _root_.Go.OpenSpec := { _root_.Go.OpenSpec.ofChange s with cond := some uptoSmall }

/-- 'roundhouselaw10.SigsPlay', WHERE WHAT IT READS IS OF BULK AT MOST 1048576: true; the input reads as it did. -/
def sigsPlayUptoRow : OpenClaim := { program := "ytiancgjpjfejdaa", sum := "6d671a7bde2bda9bc7421b6395f4e9ea0b106c318836f80a085d6597ea459ee6", func := "roundhouse/roundhouselaw10.SigsPlay", spec := "sigsPlay", unfollowed := true, recurses := true, apart := false, narrowed := true }
def SigsPlayUptoSaid : Prop := sigsPlayUptoRow.holds Try.pinned (OpenSpec.upto sigsPlaySpec)

/-- 'roundhouselaw10.SigsNames', WHERE WHAT IT READS IS OF BULK AT MOST 1048576: true; the input reads as it did. -/
def sigsNamesUptoRow : OpenClaim := { program := "ytiancgjpjfejdaa", sum := "6d671a7bde2bda9bc7421b6395f4e9ea0b106c318836f80a085d6597ea459ee6", func := "roundhouse/roundhouselaw10.SigsNames", spec := "sigsNames", unfollowed := true, recurses := true, apart := false, narrowed := true }
def SigsNamesUptoSaid : Prop := sigsNamesUptoRow.holds Try.pinned (OpenSpec.upto sigsNamesSpec)

/-- 'roundhouselaw10.SigsOnce', WHERE WHAT IT READS IS OF BULK AT MOST 1048576: true; the input reads as it did. -/
def sigsOnceUptoRow : OpenClaim := { program := "ytiancgjpjfejdaa", sum := "6d671a7bde2bda9bc7421b6395f4e9ea0b106c318836f80a085d6597ea459ee6", func := "roundhouse/roundhouselaw10.SigsOnce", spec := "sigsOnce", unfollowed := true, recurses := true, apart := false, narrowed := true }
def SigsOnceUptoSaid : Prop := sigsOnceUptoRow.holds Try.pinned (OpenSpec.upto sigsOnceSpec)

/-- 'roundhouselaw10.SigsApart', WHERE WHAT IT READS IS OF BULK AT MOST 1048576: true; the input reads as it did. -/
def sigsApartUptoRow : OpenClaim := { program := "ytiancgjpjfejdaa", sum := "6d671a7bde2bda9bc7421b6395f4e9ea0b106c318836f80a085d6597ea459ee6", func := "roundhouse/roundhouselaw10.SigsApart", spec := "sigsApart", unfollowed := true, recurses := true, apart := false, narrowed := true }
def SigsApartUptoSaid : Prop := sigsApartUptoRow.holds Try.pinned (OpenSpec.upto sigsApartSpec)

/-- 'roundhouselaw10.SigsCopies', WHERE WHAT IT READS IS OF BULK AT MOST 1048576: true; the input reads as it did. -/
def sigsCopiesUptoRow : OpenClaim := { program := "ytiancgjpjfejdaa", sum := "6d671a7bde2bda9bc7421b6395f4e9ea0b106c318836f80a085d6597ea459ee6", func := "roundhouse/roundhouselaw10.SigsCopies", spec := "sigsCopies", unfollowed := true, recurses := true, apart := false, narrowed := true }
def SigsCopiesUptoSaid : Prop := sigsCopiesUptoRow.holds Try.pinned (OpenSpec.upto sigsCopiesSpec)

end Rows
end Go.Proofs.Ytiancgjpjfejdaa
