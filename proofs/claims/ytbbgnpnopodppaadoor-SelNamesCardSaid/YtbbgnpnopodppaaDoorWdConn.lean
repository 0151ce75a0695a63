/-
  Connect and Accept: the first connection that waits at a listener.
-/
import Derived.Test.YtbbgnpnopodppaaDoorWdWait
namespace Go.Proofs.YtbbgnpnopodppaaDoor
open Go.RowKit Go.Shelf Go.Maps Go.ChangeMaps

attribute [local go_sem] Oper.semAt_some

/-- A connection more waits at a listener; others than before wait. -/
def Wi.rose (x : Wi) : Wi := x.set false { x.e false with rd := (x.e false).rd + 1 }
def Wi.more (x : Wi) (j : Nat) : Wi := { x.rose with wait := x.wait ++ [j] }
def Wi.left (x : Wi) (l : List Nat) : Wi := { x with wait := l }
theorem Wi.sameR_more (x : Wi) (j : Nat) : x.sameR (x.more j) := Wi.sameR_set x false { x.e false with rd := (x.e false).rd + 1 } rfl rfl rfl

section
variable {w w' : World} {g n : Nat} {r : Bool → Nat} {v : Value} {x : Wi}
theorem Wb.setV (h : Wb w g n r v x) (u : Value) : Wb (w.setCell ⟨g, 17, none⟩ u) g n r u x := by
  have := Blk.set_ h 17 u; exact this
theorem Wb.waits (h : Wb w g n r v x) (l : List Nat) : Wb w g n r v { x with wait := l } := h
end
section
variable {w w' : World} {B : Nat} {L : Lay} {S : Ws}
/-- What a connection at a listener leaves. -/
def Conn (w : World) (B : Nat) (L : Lay) (_S S' : Ws) (w' : World) : Prop := ∃ L', Wd w' B L' S' ∧ L'.p = L.p ∧ Mv w w' L.F L'.F
end
section
variable {w w' : World} {B : Nat} {L : Lay} {S : Ws}
/-- What Accept leaves. -/
def Accd (w : World) (B : Nat) (L : Lay) (S' : Ws) (w' : World) : Prop := ∃ L', Wd w' B L' S' ∧ L'.p = L.p ∧ Mv w w' L.F L'.F
end
end Go.Proofs.YtbbgnpnopodppaaDoor
