/-
  WorldTicks: Now, Pass; the image of a new world.
-/
import Derived.Test.YtbbgnpnopodppaaDoorWdLaw
import Derived.Test.YtbbgnpnopodppaaDoorSeBase
namespace Go.Proofs.YtbbgnpnopodppaaDoor
open Go.RowKit Go.Shelf Go.Maps Go.ChangeMaps

attribute [local go_sem] Oper.semAt_some

section
variable {w w' : World} {B : Nat} {L : Lay} {S : Ws}
def Ws.pass (s : Ws) (n : Nat) : Ws := { s with now := s.now + min n (18446744073709551615 - s.now) }
end

theorem five_boxes (w : World) (t0 t1 t2 t3 t4 : TypeId) (a0 a1 a2 a3 a4 : Value) : ∃ V, V = ((((w.alloc (.cells #[a0] t0)).alloc (.cells #[a1] t1)).alloc (.cells #[a2] t2)).alloc (.cells #[a3] t3)).alloc (.cells #[a4] t4) ∧ Kept (fun _ => False) w V ∧
    Boxed V w.heap.size t0 a0 ∧ Boxed V (w.heap.size + 1) t1 a1 ∧ Boxed V (w.heap.size + 2) t2 a2 ∧ Boxed V (w.heap.size + 3) t3 a3 ∧ Boxed V (w.heap.size + 4) t4 a4 ∧ V.heap.size = w.heap.size + 5 := by
  obtain ⟨U, hU, u0, u1, u2, u3, u4, u5⟩ := four_boxes w t0 t1 t2 t3 a0 a1 a2 a3
  rw [← hU]
  refine ⟨_, rfl, u0.alloc _, (Below.heap_alloc _ _ _ (by omega)).trans u1, (Below.heap_alloc _ _ _ (by omega)).trans u2, (Below.heap_alloc _ _ _ (by omega)).trans u3, (Below.heap_alloc _ _ _ (by omega)).trans u4, ?_, by simp [u5]⟩
  rw [← u5]
  exact World.alloc_heap_new U _

theorem numsA_none (b : Bool) (hb : b = true) (k : Nat) : numsA (fun _ => none) b k = [] := by
  subst hb
  unfold numsA
  rw [List.filter_eq_nil_iff]
  intro a _; simp
/-- What the image of a new world is. -/
def ImgOut (w : World) (e : Ending) (w' : World) : Prop := Below w.heap.size w w' ∧ ∃ g, e = .returned (.slice (some ⟨g, 0, none⟩) 1 1) ∧ w.heap.size ≤ g ∧ Blk w' g 9 #[.string ⟨#[110, 111, 119, 32, 48]⟩]

section
variable {B : Nat} {W w w' : World} {p : Nat} {S : Ws} {N : Nat} {D : Nat → Prop}
end
def Ws.at_ (m : Nat) : Ws := { Ws.new with now := m }
end Go.Proofs.YtbbgnpnopodppaaDoor
