/-
  Rows of numbers of the call's own, of any program: append of one.
-/
import Derived.Test.YtjejpgognfadoaaGreatDoorCmRow
namespace Go.Proofs.YtjejpgognfadoaaGreatDoor
open Go.RowKit

theorem RowK.new_shows {P : Program} {α : Type} {R : RowK P α} (w : World) (x : α) (t : TypeId) : R.shows (w.alloc (.cells (R.enc x).toArray t)) (some ⟨w.heap.size, 0, none⟩) [x] := fun _ => ⟨w.heap.size, 0, rfl, by simp, RowK.lies_new w x t⟩
theorem RowK.own_alloc {P : Program} {α : Type} {R : RowK P α} {w : World} {B : Nat} {v : Value} {xs : List α} (h : R.own w B v xs) (o : Obj) : R.own (w.alloc o) B v xs := RowK.own_same h fun i e => Below.heap_alloc w o i (RowK.own_lt h e).1
/-- What stands apart from a row keeps when one more is appended to it. -/
theorem RowK.grown_far {w w1 : World} {o : Obj} {r : Option Nat} (hg : (w.alloc o).grownBy w1 r) {k : Nat} (hk : k < w.heap.size) (hn : r ≠ some k) : w1.heap[k]? = w.heap[k]? :=
  (hg.block k (by simp; omega) (fun e => hn e.symm)).trans (Below.heap_alloc w o k hk)
/-- Where a row stands behind an append. -/
theorem RowK.own_off {w : World} {o : Obj} {u v : Value} (ho : u.ownBlock = v.ownBlock ∨ u.ownBlock = some (w.alloc o).heap.size) {k : Nat} (hk : k < w.heap.size) (hn : v.ownBlock ≠ some k) : u.ownBlock ≠ some k := fun e => by
  rcases ho with h | h
  · exact hn (h ▸ e)
  · rw [h] at e
    simp at e
    omega
end Go.Proofs.YtjejpgognfadoaaGreatDoor
