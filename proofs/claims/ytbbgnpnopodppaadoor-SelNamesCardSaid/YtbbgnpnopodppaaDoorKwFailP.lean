/-
  What a reset makes of a wire, as plain data.
-/
import Derived.Test.YtbbgnpnopodppaaDoorWdShut
namespace Go.Proofs.YtbbgnpnopodppaaDoor
open Go.RowKit Go.Shelf Go.Maps Go.ChangeMaps

/-- What a reset makes of an end, and of a wire. -/
def Wi.lost (x : Wi) (k : Bool) : Wi := x.set k { x.e k with bs := [] }
def Wi.fails (x : Wi) (k : Bool) : Wi := ((x.lost k).rdRise k).wrRise k
def Wi.broke (x : Wi) : Wi := { x with reset := true }
def Wi.fail (x : Wi) : Wi := if x.reset = true then x else (x.broke.fails false).fails true
section
variable {x : Wi} {N : Nat}
theorem Wi.le_lost (h : x.le N) (k : Bool) : (x.lost k).le N := Wi.le_set h (h k)
theorem Wi.le_fails (h : x.le N) (k : Bool) : (x.fails k).le (N + 2) := Wi.le_wrRise (Wi.le_rdRise (Wi.le_lost h k) k) k
theorem Wi.le_fail (h : x.le N) : x.fail.le (N + 4) := by
  unfold Wi.fail
  split
  · exact h.mono (by omega)
  · exact Wi.le_fails (Wi.le_fails (show x.broke.le N from h) false) true
theorem Wi.fails_wait (x : Wi) (k : Bool) : (x.fails k).wait = x.wait := by unfold Wi.fails; rw [Wi.wr_wait, Wi.rd_wait]; rfl
theorem Wi.fail_wait (x : Wi) : x.fail.wait = x.wait := by
  unfold Wi.fail
  split
  · rfl
  · rw [Wi.fails_wait, Wi.fails_wait]; rfl
end
end Go.Proofs.YtbbgnpnopodppaaDoor
