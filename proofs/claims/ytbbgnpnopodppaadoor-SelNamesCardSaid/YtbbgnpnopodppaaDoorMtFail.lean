/-
  Reset: a wire fails.
-/
import Derived.Test.YtbbgnpnopodppaaDoorKwFailP
namespace Go.Proofs.YtbbgnpnopodppaaDoor
open Go.RowKit Go.Shelf Go.Maps Go.ChangeMaps

section
variable {w w' : World} {B g n : Nat} {r : Bool → Nat} {F : Bool → Nat → Prop} {v : Value} {x : Wi}
theorem Wb.set15 (h : Wb w g n r v x) : Wb (w.setCell ⟨g, 15, none⟩ (.bool true)) g n r v x.broke := by
  have := Blk.set_ h 15 (.bool true); exact this
theorem lost_can (x : Wi) (k j : Bool) : ((x.lost k).e j).can = (x.e j).can := by
  unfold Wi.lost; rw [Wi.set_e]; split
  · rename_i e; subst e; rfl
  · rfl
theorem fails_can (x : Wi) (k j : Bool) : ((x.fails k).e j).can = (x.e j).can := by
  have h1 := (Wi.sameR_wr ((x.lost k).rdRise k) k).2 j
  have h2 := (Wi.sameR_rd (x.lost k) k).2 j
  unfold Wi.fails
  rw [h1.1, h2.1, lost_can]
/-- A wire whose block and rings have turned into this. -/
def FlI (w : World) (B g n : Nat) (r : Bool → Nat) (F : Bool → Nat → Prop) (v : Value) (y : Wi) (wr : World) : Prop := ∃ F1, Wr wr B g n r F1 v y ∧ Mv w wr (FW g F) (FW g F1)
end
section
variable {w w' : World} {B : Nat} {L : Lay} {S : Ws}
end
section
variable {B : Nat} {W w w' : World} {p : Nat} {S : Ws} {N : Nat} {D : Nat → Prop}
end
end Go.Proofs.YtbbgnpnopodppaaDoor
