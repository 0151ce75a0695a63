/-
  Calls of a world that name no such wire.
-/
import Derived.Test.YtbbgnpnopodppaaDoorWdNote
namespace Go.Proofs.YtbbgnpnopodppaaDoor
open Go.RowKit Go.Shelf Go.Maps Go.ChangeMaps

section
variable {w w' : World} {B : Nat} {L : Lay} {S : Ws}
end
section
variable {B : Nat} {W w w' : World} {p : Nat} {S : Ws} {N : Nat} {D : Nat → Prop}
theorem OdM.refl (h : Od B W p S N D w) : OdM B W p S N D w w := ⟨h, fun _ _ => rfl, Nat.le_refl _⟩
theorem OdM.more {M : Nat} (h : OdM B W p S N D w w') (hN : N ≤ M) : OdM B W p S M D w w' := ⟨h.1.more hN, h.2⟩
theorem OdM.drewN (h : Od B W p S N D w) (q : Nat) : OdM B W p S N D w (w.drewN q) := ⟨h.drewN q, fun _ _ => rfl, Nat.le_refl _⟩
end
end Go.Proofs.YtbbgnpnopodppaaDoor
