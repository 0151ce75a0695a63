/-
  The heap beside the reference's: what one call of either leaves.
-/
import Derived.Test.YtfflbbohgndjfaaHpRefDue
namespace Go.Proofs.Ytfflbbohgndjfaa
open Go.RowKit Go.Maps Go.ChangeMaps Go.Sort

/-- The heap with the items S1, the reference's with S2, apart. -/
structure Pl (w wr : World) (h q m : Nat) (v : Value) (S1 : List It) (r : Nat) (vr : Value) (S2 : List It) : Prop where
  H : Hp wr w.heap.size h q m v S1
  R : Rf wr w.heap.size r vr S2
  ar : ¬ (r = h ∨ Fp q m v r)
  av : ∀ k, vr.ownBlock = some k → ¬ (k = h ∨ Fp q m v k)
  b : Below w.heap.size w wr
section
variable {w wr wr' : World} {h q m r xb : Nat} {v v' vr vr' : Value} {S1 S2 S1' S2' : List It} {cs : Array Value}
theorem Pl.heap (p : Pl w wr h q m v S1 r vr S2) (hm : Moved wr wr' q m v v') (H' : Hp wr' w.heap.size h q m v' S1') : Pl w wr' h q m v' S1' r vr S2 :=
  ⟨H', p.R.kept hm.1 (fun e => p.ar (.inr e)) (fun i e f => p.av i e (.inr f)), fun e => e.elim (fun e => p.ar (.inl e)) (fp_moved hm p.R.blk.lt (fun e => p.ar (.inr e))),
    fun k hk e => e.elim (fun e => p.av k hk (.inl e)) (fp_moved hm (own_lt p.R.row hk).1 (fun e => p.av k hk (.inr e))), p.b.trans (hm.below p.H)⟩
theorem Pl.ref (p : Pl w wr h q m v S1 r vr S2) (hm : RM wr wr' r vr vr') (R' : Rf wr' w.heap.size r vr' S2') : Pl w wr' h q m v S1 r vr' S2' := by
  refine ⟨p.H.kept hm.1 (fun i hi e => p.ar (e ▸ hi)), R', p.ar, fun k hk e => ?_, p.b.trans (hm.1.below (fun k e => by have := p.R.hB; omega) p.H.base)⟩
  rcases hm.2 with e2 | hn
  · rw [e2] at hk; exact p.av k hk e
  · have := (p.H.lt e).1; have := hn k hk; omega
theorem Pl.below (p : Pl w wr h q m v S1 r vr S2) (hb : Below wr.heap.size wr wr') : Pl w wr' h q m v S1 r vr S2 := ⟨p.H.below hb, p.R.below hb, p.ar, p.av, p.b.trans (hb.mono p.b.size)⟩

/-- A block of the law's own beside both. -/
structure Bx (wr : World) (xb : Nat) (cs : Array Value) (h q m : Nat) (v : Value) (r : Nat) : Prop where
  X : Blk wr xb 31 cs
  ax : ¬ (xb = h ∨ Fp q m v xb)
  xr : xb ≠ r
theorem Bx.heap (x : Bx wr xb cs h q m v r) (hm : Moved wr wr' q m v v') : Bx wr' xb cs h q m v' r :=
  ⟨x.X.kept hm.1 (fun e => x.ax (.inr e)), fun e => e.elim (fun e => x.ax (.inl e)) (fp_moved hm x.X.lt (fun e => x.ax (.inr e))), x.xr⟩
theorem Bx.ref (x : Bx wr xb cs h q m v r) (hm : RM wr wr' r vr vr') : Bx wr' xb cs h q m v r := ⟨x.X.kept hm.1 x.xr, x.ax, x.xr⟩
theorem Bx.below (x : Bx wr xb cs h q m v r) (hb : Below wr.heap.size wr wr') : Bx wr' xb cs h q m v r := ⟨x.X.same (hb.block _ x.X.lt), x.ax, x.xr⟩
theorem Pl.new (p : Pl w wr h q m v S1 r vr S2) (cs : Array Value) : Bx (wr.alloc (.cells cs 31)) wr.heap.size cs h q m v r ∧ Pl w (wr.alloc (.cells cs 31)) h q m v S1 r vr S2 :=
  ⟨⟨Blk.new _ _ _, fun e => by have := (p.H.lt e).1; omega, fun e => by have := p.R.blk.lt; omega⟩, p.below ((Below.refl _ wr).alloc (Nat.le_refl _) _)⟩
theorem Bx.alloc (x : Bx wr xb cs h q m v r) (o : Obj) : Bx (wr.alloc o) xb cs h q m v r := x.below ((Below.refl _ wr).alloc (Nat.le_refl _) o)
theorem Bx.c3 {a b c : Value} (x : Bx wr xb #[a, b, c] h q m v r) : wr.cell? ⟨xb, 0, none⟩ = some a ∧ wr.cell? ⟨xb, 1, none⟩ = some b ∧ wr.cell? ⟨xb, 2, none⟩ = some c ∧ xb < wr.heap.size := by
  have e0 := x.X.cell 0
  have e1 := x.X.cell 1
  have e2 := x.X.cell 2
  simp at e0 e1 e2
  exact ⟨e0, e1, e2, x.X.lt⟩
end
/-- At the start. -/
theorem pl_new {w wr : World} {h q m : Nat} {v : Value} (H : Hp wr w.heap.size h q m v []) (b : Below w.heap.size w wr) : Pl w (wr.alloc (.cells #[.slice none 0 0] 28)) h q m v [] wr.heap.size (.slice none 0 0) [] :=
  ⟨H.alloc _, ⟨Blk.new _ _ _, World.ownsRow_nil _ _ _ _, (fun e => by cases e), b.size⟩, fun e => by have := (H.lt e).1; omega, (fun k e => by cases e), b.alloc b.size _⟩
end Go.Proofs.Ytfflbbohgndjfaa
