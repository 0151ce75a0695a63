/-
  Connect, whatever waits already; what it refuses.
-/
import Derived.Test.YtbbgnpnopodppaaDoorKwMake
namespace Go.Proofs.YtbbgnpnopodppaaDoor
open Go.RowKit Go.Shelf Go.Maps Go.ChangeMaps

attribute [local go_sem] Oper.semAt_some

section
variable {w w' : World} {g n : Nat} {r : Bool → Nat} {v : Value} {x : Wi}
/-- What wait leaves. -/
def WaitD (w : World) (g n : Nat) (r : Bool → Nat) (A : Option Addr) (xs : List Nat) (y : Nat) (x : Wi) (w' : World) : Prop := ∃ A' c', RP.shows w' A' (xs ++ [y]) ∧ xs.length + 1 ≤ c' ∧ RP.roomy w' A' c' ∧ Wb w' g n r (.slice A' (xs.length + 1) c') x.rose ∧ Kept (fun b => b = g ∨ A.map (·.block) = some b) w w' ∧
  ∃ g', A'.map (·.block) = some g' ∧ (A.map (·.block) = some g' ∨ w.heap.size ≤ g') ∧ g' < w'.heap.size
end
section
variable {w w' : World} {B : Nat} {L : Lay} {S : Ws}
end
/-- What Connect answers, and leaves. -/
def Ws.at? (S : Ws) (n : Int) : Option Wi := if 0 ≤ n then S.ws[n.toNat]? else none
def Ws.conn (S : Ws) (n m : Int) : Int × Int × Ws := match S.at? n with
  | none => (0, 116, S)
  | some x => if x.back = 0 ∨ (x.e false).is = 3 then (0, 116, S) else if m < 1 ∨ 65536 < m then (0, 2, S) else if x.wait.length = x.back then (0, 113, S) else if S.ws.length = 1000 then (0, 112, S) else ((S.ws.length : Nat), 0, (S.addW (outW m.toNat)).setW n.toNat (x.more S.ws.length))
theorem Wi.le_rose {x : Wi} {N : Nat} (h : x.le N) : x.rose.le (N + 1) := Wi.le_set (h.mono (Nat.le_succ _)) ⟨by have := (h false).1; show (x.e false).inn ≤ _; omega, by have := (h false).2.1; show (x.e false).rd + 1 ≤ _; omega, by have := (h false).2.2; show (x.e false).wr ≤ _; omega⟩
section
variable {B : Nat} {W w w' : World} {p : Nat} {S : Ws} {N : Nat} {D : Nat → Prop}
/-- What a call that answers a number and an error leaves in a law. -/
def TwoO (B : Nat) (W : World) (p : Nat) (N : Nat) (D : Nat → Prop) (w : World) (r : Int × Int × Ws) (e : Ending) (w' : World) : Prop := e = .returned (.tuple #[.int .i64 r.1, .int .i64 r.2.1]) ∧ OdM B W p r.2.2 N D w w'
end
end Go.Proofs.YtbbgnpnopodppaaDoor
