/-
  Two heaps that share no block.
-/
import Derived.Test.YtfflbbohgndjfaaHpSame
namespace Go.Proofs.Ytfflbbohgndjfaa
open Go.RowKit Go.Maps Go.ChangeMaps Go.Sort

/-- Two heaps apart. -/
structure Two (w : World) (B h1 q1 m1 : Nat) (v1 : Value) (S1 : List It) (h2 q2 m2 : Nat) (v2 : Value) (S2 : List It) : Prop where
  a : Hp w B h1 q1 m1 v1 S1
  b : Hp w B h2 q2 m2 v2 S2
  ap : ∀ k, (k = h1 ∨ Fp q1 m1 v1 k) → ¬ (k = h2 ∨ Fp q2 m2 v2 k)
section
variable {w w' : World} {B h1 q1 m1 h2 q2 m2 : Nat} {v1 v2 v1' v2' : Value} {S1 S2 S1' S2' : List It}
theorem Two.symm (T : Two w B h1 q1 m1 v1 S1 h2 q2 m2 v2 S2) : Two w B h2 q2 m2 v2 S2 h1 q1 m1 v1 S1 := ⟨T.b, T.a, fun k e e' => T.ap k e' e⟩
theorem Two.first (T : Two w B h1 q1 m1 v1 S1 h2 q2 m2 v2 S2) (hm : Moved w w' q1 m1 v1 v1') (H : Hp w' B h1 q1 m1 v1' S1') : Two w' B h1 q1 m1 v1' S1' h2 q2 m2 v2 S2 := by
  refine ⟨H, T.b.kept hm.1 (fun i e hf => T.ap i (.inr hf) e), fun k e e2 => ?_⟩
  have hlt := (T.b.lt e2).1
  rcases e with e | e
  · exact T.ap k (.inl e) e2
  · by_cases hf : Fp q1 m1 v1 k
    · exact T.ap k (.inr hf) e2
    · exact fp_moved hm hlt hf e
theorem Two.second (T : Two w B h1 q1 m1 v1 S1 h2 q2 m2 v2 S2) (hm : Moved w w' q2 m2 v2 v2') (H : Hp w' B h2 q2 m2 v2' S2') : Two w' B h1 q1 m1 v1 S1 h2 q2 m2 v2' S2' := (T.symm.first hm H).symm
theorem Two.below (T : Two w B h1 q1 m1 v1 S1 h2 q2 m2 v2 S2) (hb : Below w.heap.size w w') : Two w' B h1 q1 m1 v1 S1 h2 q2 m2 v2 S2 := ⟨T.a.below hb, T.b.below hb, T.ap⟩
theorem Two.drewN (T : Two w B h1 q1 m1 v1 S1 h2 q2 m2 v2 S2) (j : Nat) : Two (w.drewN j) B h1 q1 m1 v1 S1 h2 q2 m2 v2 S2 := T.below (below_drewN (Below.refl _ _) j)
theorem two_new (H : Hp w B h1 q1 m1 v1 S1) (hb : Below w.heap.size w w') (G : Hp w' w.heap.size h2 q2 m2 v2 S2) : Two w' B h1 q1 m1 v1 S1 h2 q2 m2 v2 S2 :=
  ⟨H.below hb, G.more H.base, fun k e e2 => by have := (H.lt e).1; have := (G.lt e2).2; omega⟩
end

/-- Behind two appends of a law's own all that lay lies as it lay. -/
theorem twice_b9 {w w7 w8 w9 : World} {h1 q1 m1 h2 q2 m2 : Nat} {v1 v2 u8 u9 : Value} {S1 S2 : List It} (z : Below w.heap.size w w7) (T : Two w7 w.heap.size h1 q1 m1 v1 S1 h2 q2 m2 v2 S2)
    (hg8 : w7.grownBy w8 (Value.slice none 0 0).ownBlock) (hg9 : w8.grownBy w9 u8.ownBlock) (ho8 : u8.ownBlock = (Value.slice none 0 0).ownBlock ∨ u8.ownBlock = some w7.heap.size) {xs ys : List It} (O9 : OwnIt w9 w7.heap.size u9 ([] ++ xs ++ ys)) :
    Below w.heap.size w w9 ∧ Two w9 w.heap.size h1 q1 m1 v1 S1 h2 q2 m2 v2 S2 ∧ OwnIt w9 w7.heap.size u9 (xs ++ ys) ∧ ∀ k, u9.ownBlock = some k → ¬ Fp q2 m2 v2 k := by
  have b : Below w7.heap.size w7 w9 := (due_b7 hg8).grown hg9 hg8.size (fun k e => by
    rcases ho8 with h | h
    · rw [h] at e; cases e
    · rw [h] at e; cases e; exact Nat.le_refl _)
  exact ⟨z.trans (b.mono z.size), T.below b, by simpa using O9, O9.apart T.b (Nat.le_refl _)⟩

/-- What is due, and what is left, is one way alone. -/
theorem due_unique {now : Int} : ∀ {xs ys r s : List It}, xs ++ r = ys ++ s → (∀ x ∈ xs, x.d ≤ now) → (∀ x ∈ r, now < x.d) → (∀ x ∈ ys, x.d ≤ now) → (∀ x ∈ s, now < x.d) → xs = ys ∧ r = s
  | [], [], _, _, h, _, _, _, _ => ⟨rfl, h⟩
  | [], y :: ys, r, s, h, _, h2, h3, _ => by
    have h1 : r = y :: (ys ++ s) := h
    have a := h2 y (by rw [h1]; exact List.mem_cons_self)
    have b := h3 y List.mem_cons_self
    omega
  | x :: xs, [], r, s, h, h1, _, _, h4 => by
    have e : s = x :: (xs ++ r) := h.symm
    have a := h4 x (by rw [e]; exact List.mem_cons_self)
    have b := h1 x List.mem_cons_self
    omega
  | x :: xs, y :: ys, r, s, h, h1, h2, h3, h4 => by
    simp only [List.cons_append, List.cons.injEq] at h
    obtain ⟨e1, e2⟩ := due_unique h.2 (fun z hz => h1 z (List.mem_cons_of_mem _ hz)) h2 (fun z hz => h3 z (List.mem_cons_of_mem _ hz)) h4
    exact ⟨by rw [h.1, e1], e2⟩
end Go.Proofs.Ytfflbbohgndjfaa
