/-
  WorldBytes: its switch as a piece of code of its own.
-/
import Derived.Test.YtjejpgognfadoaaWdByte
import Derived.Test.YtjejpgognfadoaaWdGreat
import Derived.Deep.CutBlock
namespace Go.Proofs.Ytjejpgognfadoaa
open Go.RowKit Go.Shelf Go.Maps Go.ChangeMaps

def blockAt (n : Nat) : Code → Option Code
  | .block m c => if m = n then some (.block m c) else blockAt n c
  | .seq a b => match blockAt n a with
    | some c => some c
    | none => blockAt n b
  | .loop c => blockAt n c
  | .scope c => blockAt n c
  | .cond _ a b => match blockAt n a with
    | some c => some c
    | none => blockAt n b
  | _ => none
/-- The switch. -/
noncomputable def swCode : Code := ((Try.f3.body.bind (blockAt 2)).getD .skip)
theorem ArgW.below {w w1 : World} {A : Option Addr} {l : List OpW} (h : ArgW w A l) (hb : Below w.heap.size w w1) : ArgW w1 A l :=
  ⟨fun x hx => ⟨(h.1 x hx).k, (h.1 x hx).a, (h.1 x hx).n, (h.1 x hx).src.at0 hb (fun _ e => e.elim)⟩, fun h0 => by
    obtain ⟨b, off, e, hlt, hc⟩ := h.2 h0
    have f := fun j => hb.cell (p := ⟨b, j, none⟩) hlt
    exact ⟨b, off, e, Nat.lt_of_lt_of_le hlt hb.size, fun i x hx => by
      obtain ⟨h0, h1, h2, h3, h4⟩ := hc i x hx
      exact ⟨(f _).trans h0, (f _).trans h1, (f _).trans h2, (f _).trans h3, (f _).trans h4⟩⟩⟩
section
variable {w wr w3 : World} {p b1 b2 cap N M N' M' : Nat} {x y x' y' : Wi} {s g : Nat → List Int}
theorem BySt.put (h : BySt w p b1 b2 cap N M x y s g wr) (O : Od w.heap.size w p (S2 x' y') N' (fun b => b = b1 ∨ b = b2) w3) (e1 : w3.heap[b1]? = wr.heap[b1]?) (e2 : w3.heap[b2]? = wr.heap[b2]?) {j : Nat} (hj : j < 4) (v : List Int) (hf : Flow cap M' x' y' (updL s j v) g) (q : Nat) :
    BySt w p b1 b2 cap N' M' x' y' (updL s j v) g ((w3.drewN q).setCell ⟨b1, j, none⟩ (.string (strOfNums v))) := by
  have hs : Blk (w3.drewN q) b1 30 (strs4 s) := h.sb.same e1
  have hg : Blk (w3.drewN q) b2 30 (strs4 g) := h.gb.same e2
  refine ⟨(O.drewN q).wrote (G := fun b => b = b1) ((Kept.refl (fun b => b = b1) _).setCell (p := ⟨b1, j, none⟩) rfl _) (fun b e => by subst e; exact ⟨.inl rfl, h.h1⟩), h.h1, h.h2, h.ne, ?_, hg.same (Below.heap_setCell _ _ _ _ (Ne.symm h.ne)), hf⟩
  have := hs.set_ j (.string (strOfNums v))
  rw [strs4_upd s hj] at this
  exact this
theorem BySt.take (h : BySt w p b1 b2 cap N M x y s g wr) (O : Od w.heap.size w p (S2 x' y') N' (fun b => b = b1 ∨ b = b2) w3) (e1 : w3.heap[b1]? = wr.heap[b1]?) (e2 : w3.heap[b2]? = wr.heap[b2]?) {j : Nat} (hj : j < 4) (v : List Int) (hf : Flow cap M' x' y' s (updL g j v)) (q : Nat) :
    BySt w p b1 b2 cap N' M' x' y' s (updL g j v) ((w3.drewN q).setCell ⟨b2, j, none⟩ (.string (strOfNums v))) := by
  have hs : Blk (w3.drewN q) b1 30 (strs4 s) := h.sb.same e1
  have hg : Blk (w3.drewN q) b2 30 (strs4 g) := h.gb.same e2
  refine ⟨(O.drewN q).wrote (G := fun b => b = b2) ((Kept.refl (fun b => b = b2) _).setCell (p := ⟨b2, j, none⟩) rfl _) (fun b e => by subst e; exact ⟨.inr rfl, h.h2⟩), h.h1, h.h2, h.ne, hs.same (Below.heap_setCell _ _ _ _ h.ne), ?_, hf⟩
  have := hg.set_ j (.string (strOfNums v))
  rw [strs4_upd g hj] at this
  exact this
end
/-- The state of a round. -/
def ByR (w : World) (p b1 b2 cap i : Nat) (wr : World) : Prop := ∃ x y s g, BySt w p b1 b2 cap (1000 + i * 400) (i * 300) x y s g wr


/-- What a round holds fast while it switches. -/
structure SwH (w wr wB : World) (p b1 b2 bx cap i : Nat) (x y : Wi) (s g : Nat → List Int) (z : OpW) (zA : Option Addr) (zc : Nat) : Prop where
  hp : Hid (BySt w p b1 b2 cap (1000 + i * 400) (i * 300) x y s g wr ∧ True ∧ z.Ok w)
  hx : Hid (Blk wB bx 34 #[.int .i64 z.kind, .int .i64 z.a, .int .i64 z.n, .int .u64 z.t, .slice zA z.b.length zc] ∧ Od w.heap.size w p (S2 x y) (1000 + i * 400) (fun q => q = bx ∨ q = b1 ∨ q = b2) wB ∧ wB.heap[b1]? = wr.heap[b1]? ∧ wB.heap[b2]? = wr.heap[b2]?)
  hz300 : z.b.length ≤ 300
  hzv : z.v = .slice zA z.b.length zc
  hzc1 : z.b.length ≤ zc
  hzc2 : zc ≤ 9223372036854775807
  hl : i < 200
  hcap : cap ≤ 40
end Go.Proofs.Ytjejpgognfadoaa
