/-
  A range over a function whose loop holds what lies below a bound: no block that the loop itself lays touches it.
-/
import Derived.Test.YtjejpgognfadoaaGreatDoorCmSeq
namespace Go.Proofs.YtjejpgognfadoaaGreatDoor
open Go.RowKit Go.Shelf Go.Maps Go.ChangeMaps

/-- Below N all lies as it lay. -/
structure SameTo (N : Nat) (W W' : World) : Prop where
  os : W'.os = W.os
  tape : W'.tape = W.tape
  output : W'.output = W.output
  size : N ≤ W'.heap.size
  block : ∀ k, k < N → W'.heap[k]? = W.heap[k]?
/-- What speaks of blocks below N alone. -/
def Low {β : Type} (N : Nat) (I : β → World → Prop) : Prop := ∀ s W, I s W → N ≤ W.heap.size ∧ ∀ W', SameTo N W W' → I s W'
/-- What a round keeps for the iterator: the blocks below N that Pr names. -/
structure KpL (N : Nat) (Pr : Nat → Prop) (X Y : World) : Prop where
  size : X.heap.size ≤ Y.heap.size
  block : ∀ k, k < N → Pr k → Y.heap[k]? = X.heap[k]?

section
variable {N : Nat} {W W' : World}
theorem SameTo.grown {row : Option Nat} (hN : N ≤ W.heap.size) (h : W.grownBy W' row) (hr : ∀ k, row = some k → N ≤ k) : SameTo N W W' :=
  ⟨h.os, h.tape, h.output, Nat.le_trans hN h.size, fun k hk => h.block k (by omega) (fun e => by have := hr k e.symm; omega)⟩
theorem SameTo.kept {F : Nat → Prop} (hN : N ≤ W.heap.size) (h : Kept F W W') (hF : ∀ k, F k → N ≤ k) : SameTo N W W' :=
  ⟨h.os, h.tape, h.output, Nat.le_trans hN h.size, fun k hk => h.block k (by omega) (fun e => by have := hF k e; omega)⟩
theorem Kept.sameTo {F : Nat → Prop} {a : World} (h : Kept F a W) (k : SameTo N W W') (hN : a.heap.size ≤ N) : Kept F a W' :=
  ⟨k.os.trans h.os, k.tape.trans h.tape, k.output.trans h.output, Nat.le_trans hN k.size, fun i hi hf => (k.block i (by omega)).trans (h.block i hi hf)⟩
end

/-- A piece of code that ends by itself, as R says. -/
def onlyN (R : Act → World → Prop) : Exit → Act → World → Prop
  | .normal, a, w => R a w
  | _, _, _ => False

/-- How the body of a round may be left. -/
def lowPost {α : Type} (N : Nat) (Pr : Nat → Prop) (I : List α → World → Prop) (Ix : Code → List α → World → Prop) (xs : List α) (W : World) : Exit → Act → World → Prop
  | .normal, _, W' => KeepsFrom N W W' ∧ KpL N Pr W W' ∧ I xs W'
  | .ret, _, W' => KeepsFrom N W W' ∧ Ix .ret xs W'
  | .exit id, _, W' => KeepsFrom N W W' ∧ Ix (.exit id) xs W'
  | .goto t, _, W' => KeepsFrom N W W' ∧ Ix (.goto t) xs W'
  | .panic _, _, _ => False
  | .outgrown, _, _ => False

theorem rangeFunc_low {n : Nat} {P : Program} {α : Type} {g : Operand} {ps : Array Tmp} {assign body : Code} {Q : Exit → Act → World → Prop} {a : Act} {w : World} (h1 : 1 ≤ n)
    {gf : Nat} {lb : Array Value} (hg : a.eval g = .func (.func gf) #[] lb) (eg : ∀ args w, (callFunc gf args).run P w = .ok (.enter gf args) w)
    (encs : α → Array Value) (Pr : Nat → Prop) {S Sp : List α → Prop} {M : Nat} (hseq : SeqCh (n - 1) P gf lb encs (KpL w.heap.size Pr) (Kept (fun _ => False)) (fun xs _ => S xs) Sp M w)
    (hps : ∀ x, (encs x).size = ps.size)
    (I : List α → World → Prop) (Ix : Code → List α → World → Prop) (hI : Low w.heap.size I) (hIx : ∀ c, Low w.heap.size (Ix c)) (h0 : I [] w) (a₁ : α → Act)
    (hassign : ∀ (l : Nat) (x : α) (W : World) (K : Act → World → Prop), K (a₁ x) W →
      assign.wpIn (Fence.wide.inRound l) (n - 1 - 1) P (Exit.then K (fun _ _ _ => False)) { tmps := (ps.zip (encs x)).foldl (fun t (p, v) => t.setIfInBounds p v) a.tmps, defers := [] } W)
    (hbody : ∀ (l : Nat) (pre : List α) (x : α) (W : World), I pre W → pre.length < M → body.wpIn (Fence.wide.inRound l) (n - 1 - 1) P (lowPost w.heap.size Pr I Ix (pre ++ [x]) W) (a₁ x) W)
    (hdone : ∀ (D : Nat) (xs : List α) (W : World), w.heap.size ≤ D → S xs → I xs W → W.heap[D]? = some (.deferred (some [])) → Q .normal { a with defers := { target := .collected D, args := #[] } :: a.defers } W)
    (hstop : ∀ (D : Nat) (c : Code) (pre : List α) (W : World), w.heap.size ≤ D → Sp pre → Ix c pre W → W.heap[D]? = some (.deferred (some [])) → c.wpIn Fence.wide n P Q { a with defers := { target := .collected D, args := #[] } :: a.defers } W) :
    (Code.rangeFunc g ps assign body).wpIn Fence.wide n P Q a w := by
  have own : ∀ {β : Type} {I : β → World → Prop}, Low w.heap.size I → OwnFrom w.heap.size I := fun h s X Y row hs hg hr =>
    (h s X hs).2 Y (SameTo.grown (h s X hs).1 hg fun k e => (hr k e).1)
  refine rangeFunc_ch h1 hg eg hseq (fun _ _ => rfl) (Nat.le_refl _)
    (fun p q => ⟨Nat.le_trans p.size q.size, fun k hk hp => (q.block k hk hp).trans (p.block k hk hp)⟩)
    (fun X l o o' hl _ _ _ => ⟨by simp [World.putObj], fun k hk _ => World.putObj_heap_other (by omega)⟩) hps
    I Ix (own hI) (fun c => own (hIx c))
    (fun X Y k o h _ ho => (h.block k (Array.getElem?_eq_some_iff.1 ho).1 (fun e => e)).trans ho)
    (fun s X Y hs h => (hI s X hs).2 Y (SameTo.kept (hI s X hs).1 h fun _ e => e.elim))
    (fun _ _ _ _ _ hs _ _ => hs) h0 (fun x a' _ => a' = a₁ x) (fun _ _ _ _ _ _ hs _ _ => hs)
    (fun l pre x W K hi hK => hassign l x W K (hK _ _ (KeepsFrom.refl _ _) ⟨Nat.le_refl _, fun _ _ _ => rfl⟩ hi rfl)) ?_ (fun D xs W hD hS hi hd => hdone D xs W hD hS hi hd) hstop
  rintro l pre x a' W hl hi rfl hM
  refine wpIn_mono (hbody l pre x W hi hM) ?_
  intro e b X h
  cases e <;> exact h
end Go.Proofs.YtjejpgognfadoaaGreatDoor
