/-
  PeerClose; the kept block's notify.
-/
import Derived.Test.YtbbgnpnopodppaaDoorWdLaw
namespace Go.Proofs.YtbbgnpnopodppaaDoor
open Go.RowKit Go.Maps Go.ChangeMaps

attribute [local go_sem] Oper.semAt_some

theorem Wi.rd_wait (x : Wi) (k : Bool) : (x.rdRise k).wait = x.wait := by unfold Wi.rdRise; split <;> rfl
theorem Wi.wr_wait (x : Wi) (k : Bool) : (x.wrRise k).wait = x.wait := by unfold Wi.wrRise; split <;> rfl
theorem Wi.close_wait (x : Wi) (k : Bool) : (x.close k).wait = x.wait := by
  unfold Wi.close
  split
  · rw [Wi.wr_wait]; rfl
  · rw [Wi.wr_wait, Wi.rd_wait]; rfl
section
variable {w w' : World} {B : Nat} {L : Lay} {S : Ws}
end
section
variable {B : Nat} {W w w' : World} {p : Nat} {S : Ws} {N : Nat} {D : Nat → Prop}
end
end Go.Proofs.YtbbgnpnopodppaaDoor
