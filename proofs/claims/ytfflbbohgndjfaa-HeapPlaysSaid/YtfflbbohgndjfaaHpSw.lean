/-
  HeapPlays: its switch as a piece of code of its own.
-/
import Derived.Test.YtfflbbohgndjfaaHpPl
import Derived.Deep.DeepCutAuto
import Derived.Deep.CutBlock
import Derived.BigQuiet
namespace Go.Proofs.Ytfflbbohgndjfaa
open Go.RowKit Go.Maps Go.ChangeMaps Go.Sort

def blockAt (n : Nat) : Code → Option Code
  | .block m c => if m = n then some (.block m c) else blockAt n c
  | .seq a b => match blockAt n a with
    | some c => some c
    | none => blockAt n b
  | .loop c => blockAt n c
  | .scope c => blockAt n c
  | .cond _ a b => match blockAt n a with
    | some c => some c
    | none => blockAt n b
  | _ => none
/-- The switch. -/
noncomputable def swCode : Code := ((Try.f3.body.bind (blockAt 2)).getD .skip)
/-- What it leaves. -/
def SwP (w : World) (h q m r k : Nat) (w' : World) : Prop := ∃ v' vr' S', Pl w w' h q m v' S' r vr' S' ∧ S'.length ≤ k + 1
end Go.Proofs.Ytfflbbohgndjfaa
