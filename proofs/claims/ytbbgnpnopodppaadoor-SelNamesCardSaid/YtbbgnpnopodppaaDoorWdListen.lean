/-
  Listen.
-/
import Derived.Test.YtbbgnpnopodppaaDoorWdShut
namespace Go.Proofs.YtbbgnpnopodppaaDoor
open Go.RowKit Go.Shelf Go.Maps Go.ChangeMaps

attribute [local go_sem] Oper.semAt_some

theorem Wb.setBack {w : World} {g n : Nat} {r : Bool → Nat} {v : Value} {x : Wi} (h : Wb w g n r v x) (m : Nat) : Wb (w.setCell ⟨g, 16, none⟩ (.int .i64 (m : Int))) g n r v { x with back := m } := by
  have := Blk.set_ h 16 (.int .i64 (m : Int)); exact this
/-- What Listen leaves. -/
def MadeL (w : World) (B : Nat) (L : Lay) (S : Ws) (x : Wi) (e : Ending) (w' : World) : Prop := ∃ fd : Nat, S.frees[0]? = some fd ∧ e = .returned (.tuple #[.int .i64 (fd : Int), .int .i64 (S.ws.length : Int), .int .i64 0]) ∧
  ∃ L', Wd w' B L' ((S.addW x).opened S.ws.length false fd) ∧ L.ext L' S.ws.length ∧ Mv w w' L.F L'.F ∧ L'.wt S.ws.length = .slice none 0 0
/-- A listener. -/
def lisW (n : Nat) : Wi := { Wi.new 0 0 with back := n }
section
variable {w w' : World} {B : Nat} {L : Lay} {S : Ws}
end
section
variable {B : Nat} {W w w' : World} {p : Nat} {S : Ws} {N : Nat} {D : Nat → Prop}
end
end Go.Proofs.YtbbgnpnopodppaaDoor
