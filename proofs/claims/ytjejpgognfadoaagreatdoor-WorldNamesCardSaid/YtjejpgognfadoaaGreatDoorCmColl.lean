/-
  A slice in a box that a range over a function fills, of any program and any kind of row; a number in such a box; append of one, and a store of a whole array, in a round.
-/
import Derived.Test.YtjejpgognfadoaaGreatDoorCmNest
import Derived.Test.YtjejpgognfadoaaGreatDoorCmRow
import Derived.Test.YtjejpgognfadoaaGreatDoorCmWhole
import Derived.OwnWalkIn
namespace Go.Proofs.YtjejpgognfadoaaGreatDoor
open Go.RowKit Go.Maps Go.ChangeMaps Go.Shelf

/-- Blocks of cells. -/
def TCe (o : Obj) : Prop := o.isCells = true
theorem boxed_chR {X Y : World} {M b : Nat} {t : TypeId} {v : Value} (h : Boxed X b t v) (k : ChR M X Y) : Boxed Y b t v := k.cells _ _ h rfl
theorem blk_chR {X Y : World} {M b : Nat} {t : TypeId} {cs : Array Value} (h : Blk X b t cs) (k : ChR M X Y) : Blk Y b t cs := k.cells _ _ h rfl
theorem below_chR {w X Y : World} {N : Nat} (h : Below w.heap.size w X) (k : ChR N X Y) (hN : w.heap.size ≤ N) : Below w.heap.size w Y :=
  ⟨k.os.trans h.os, k.tape.trans h.tape, k.output.trans h.output, Nat.le_trans h.size k.size, fun i hi => (k.low i (by omega) (Nat.lt_of_lt_of_le hi h.size)).trans (h.block i hi)⟩
theorem boxed_set {W : World} {b : Nat} {t : TypeId} {v : Value} (h : Boxed W b t v) (u : Value) : Boxed (W.setCell ⟨b, 0, none⟩ u) b t u := by
  have hb2 : Blk W b t #[v] := h
  have := hb2.set_ 0 u
  simpa [Boxed, Blk] using this

section
variable {P : Program} {α : Type} {R : RowK P α} {w W X Y w1 : World} {N b M B : Nat} {v v' : Value} {xs pre : List α} {x : α}
theorem RowK.own_chR (h : R.own X B v xs) (k : ChR M X Y) : R.own Y B v xs := RowK.own_same h fun j e => by
  rcases h.2 with ⟨e2, _⟩ | ⟨g, cap, cur, rfl, hb, hg, _⟩
  · rw [e2] at e; cases e
  · cases e
    exact (k.cells _ _ hg rfl).trans hg.symm
/-- The box of a slice that has been collected so far. -/
structure ColR (R : RowK P α) (w : World) (b N : Nat) (pre : List α) (W : World) : Prop where
  ex : ∃ v, Boxed W b R.s v ∧ R.own W N v pre
  bel : Below w.heap.size w W
theorem ColR.chR (h : ColR R w b N pre X) (k : ChR M X Y) (hM : w.heap.size ≤ M) : ColR R w b N pre Y := by
  obtain ⟨v, h1, h2⟩ := h.ex
  exact ⟨⟨v, boxed_chR h1 k, RowK.own_chR h2 k⟩, below_chR h.bel k hM⟩
theorem ColR.step {o : Obj} {Pr : Nat → Prop} (i3 : Boxed W b R.s v) (io : R.own W N v pre) (ib : Below w.heap.size w W) (hb : b < N) (hwb : w.heap.size ≤ b)
    (hg : (W.alloc o).grownBy w1 v.ownBlock) (O1 : R.own w1 N v' (pre ++ [x])) (hP : ∀ k, Pr k → k ≠ b) :
    ColR R w b N (pre ++ [x]) (w1.setCell ⟨b, 0, none⟩ v') ∧ KeepsFrom N W (w1.setCell ⟨b, 0, none⟩ v') ∧ KpO TCe N Pr W (w1.setCell ⟨b, 0, none⟩ v') := by
  have lt := i3.lt
  have ez : (W.alloc o).heap.size = W.heap.size + 1 := by simp
  have sz : W.heap.size ≤ (w1.setCell ⟨b, 0, none⟩ v').heap.size := by
    have := hg.size
    simp [World.setCell] at this ⊢; omega
  have s1 : ∀ k, k < W.heap.size → v.ownBlock ≠ some k → w1.heap[k]? = W.heap[k]? := fun k hk hn => (hg.block k (by omega) (fun e => hn e.symm)).trans (Below.heap_alloc W o k hk)
  have same : ∀ k, k < W.heap.size → k ≠ b → v.ownBlock ≠ some k → (w1.setCell ⟨b, 0, none⟩ v').heap[k]? = W.heap[k]? := fun k hk hkb hn => (Below.heap_setCell _ _ _ _ hkb).trans (s1 k hk hn)
  have hN : ∀ k, v.ownBlock = some k → N ≤ k := fun k e => (RowK.own_lt io e).2
  have hT : ∀ k ob, v.ownBlock = some k → W.heap[k]? = some ob → TCe ob := fun k ob e ho => by
    rcases io.2 with ⟨e2, _⟩ | ⟨g, cap, cur, rfl, _, hg2, _⟩
    · rw [e2] at e; cases e
    · cases e
      rw [hg2] at ho; cases ho; rfl
  refine ⟨⟨⟨v', boxed_set (t := R.s) (v := v) ((s1 b lt (fun e => by have := hN b e; omega)).trans i3) v', RowK.own_same O1 fun k e => Below.heap_setCell _ _ _ _ (by have := (RowK.own_lt O1 e).2; simp; omega)⟩, ?_⟩, ⟨sz, fun k ob hk ho hc => (same k (Array.getElem?_eq_some_iff.1 ho).1 (by omega) fun e => by
      have := hT k ob e ho
      unfold TCe at this; rw [hc] at this; cases this).trans ho⟩, ⟨sz, fun k hk hl hp => same k hl (hP k hp) (fun e => by have := hN k e; omega), fun k ob hk ho hc => (same k (Array.getElem?_eq_some_iff.1 ho).1 (by omega) fun e => hc (hT k ob e ho)).trans ho⟩⟩
  exact ((ib.alloc ib.size o).grown hg (by have := ib.size; omega) (fun k e => by have := hN k e; omega)).setCell hwb v'

/-- append(s, x) in a round. -/
theorem RowK.append_in {F : Fence} {n : Nat} {ops : Array Oper} {rest : List Oper} {o : Oper} {a : Act} {Q : Exit → Act → World → Prop} (hgd : o.guard = none) (s y : Operand)
    (ho : o.op = .call { callee := .builtin .append, args := #[s, y], argTypes := #[R.s, R.s] }) (B : Nat) (v : Value) (xs : List α) (x : α) (hs : a.eval s = v) (hown : R.own w B v xs) {ad : Addr} {c : Nat} (hy : a.eval y = .slice (some ad) 1 c)
    (hr : R.shows w (some ad) [x]) (hlen : xs.length + 1 ≤ 100000000) (hB : B ≤ w.heap.size)
    (h : ∀ g cap w', R.own w' B (.slice (some ⟨g, 0, none⟩) (xs.length + 1) cap) (xs ++ [x]) → w.grownBy w' v.ownBlock → wpListIn F n P ops Q rest (a.put o.dst (.slice (some ⟨g, 0, none⟩) (xs.length + 1) cap)) w') : wpListIn F n P ops Q (o :: rest) a w := by
  obtain ⟨i0, hi, hz0, hz1, hz2⟩ := row_info R.info
  have hb := R.by_
  have hbig : (xs.length + 1) * R.bytes ≤ 140737488355328 := by
    have := Nat.mul_le_mul hlen hb
    omega
  obtain ⟨g, off, e, _, hl⟩ := hr (by simp)
  cases e
  refine wpListIn_append_own w hgd s y _ ho B _ i0 _ R.n R.bytes R.und hi hz0 hz1 hz2 R.zs R.pos v xs.length (R.all xs) hs hown ⟨g, off, none⟩ 1 c (R.all [x]) hy (R.all_len [x]) (fun j u hu => ?_) (R.all_one [x]) (by unfold maxLen; omega) hbig hB
    (fun v' w' h1 h2 _ => ?_)
  · have hj : j < R.n := by have := (List.getElem?_eq_some_iff.1 hu).1; rw [R.all_len] at this; simpa using this
    have hadd : (⟨g, off, none⟩ : Addr).add j = ⟨g, off + j, none⟩ := by unfold Addr.add; split <;> simp_all
    have e1 := hl 0 x rfl j hj
    have e2 := R.all_at [x] 0 x rfl j hj
    rw [Nat.zero_mul, Nat.zero_add] at e1 e2
    rw [hadd, e1, ← e2, hu]
  · have h3 : R.own w' B v' (xs ++ [x]) := by unfold RowK.own; rw [List.length_append, R.all_append]; exact h1
    rcases h1.2 with ⟨_, hn⟩ | ⟨g', cap, cur, rfl, _⟩
    · omega
    · exact h g' cap w' h3 h2
end

section
variable {P : Program}
/-- A store of a whole array into a block, in a round or behind one. -/
theorem wpListIn_store_part {F : Fence} {n : Nat} {ops : Array Oper} {rest : List Oper} {o : Oper} {a : Act} {w : World} {Q : Exit → Act → World → Prop} (hgd : o.guard = none) (ty : TypeId) (x v : Operand) (ho : o.op = .store ty x v)
    {g off : Nat} (hx : a.eval x = .pointer (some ⟨g, off, none⟩)) {c : Array Value} (hv : a.eval v = .agg c) {t : TypeId} {cs : Array Value} (hg : Blk w g t cs) (hi : (P.info? ty).map (·.size) = some c.size) (hfit : off + c.size ≤ cs.size) (h1 : ∀ v ∈ c, v.oneCell' = true)
    (h : wpListIn F n P ops Q rest (a.put o.dst undef) (w.setRow g (putAt cs off c))) : wpListIn F n P ops Q (o :: rest) a w := by
  refine wpListIn_plain hgd fun K hK => ?_
  unfold Oper.wpIn
  refine ⟨?_, ?_⟩
  · simp [Oper.about, ho]
  · rw [Oper.semAt_plain F _ _ (by rw [ho]; intro c hc'; cases hc')]
    simp only [execOp, ho, hx, hv, Instr.storeAt, Instr.sureAddr, Sem.run_bind, Sem.run_pure, Result.andThen_ok, run_storeVar_part hg hi hfit h1]
    exact hK _ _ h

/-- A number in a box that grows, round by round. -/
structure ColN (w : World) (b : Nat) (t : TypeId) (v : Value) (W : World) : Prop where
  ex : Boxed W b t v
  bel : Below w.heap.size w W
variable {w X Y W : World} {b N M : Nat} {t : TypeId} {v : Value}
theorem ColN.chR (h : ColN w b t v X) (k : ChR M X Y) (hM : w.heap.size ≤ M) : ColN w b t v Y := ⟨boxed_chR h.ex k, below_chR h.bel k hM⟩
theorem ColN.step {Pr : Nat → Prop} {T : Obj → Prop} (h : ColN w b t v W) (hb : b < N) (hwb : w.heap.size ≤ b) (hP : ∀ k, Pr k → k ≠ b) (u : Value) :
    ColN w b t u (W.setCell ⟨b, 0, none⟩ u) ∧ KeepsFrom N W (W.setCell ⟨b, 0, none⟩ u) ∧ KpO T N Pr W (W.setCell ⟨b, 0, none⟩ u) := by
  have k : Kept (fun i => i = b) W (W.setCell ⟨b, 0, none⟩ u) := (Kept.refl (fun i => i = b) W).setCell (p := ⟨b, 0, none⟩) rfl u
  exact ⟨⟨boxed_set h.ex u, h.bel.setCell hwb u⟩, KeepsFrom.of_kept k (fun i o hi ho e => by omega), KpO.of_kept k (fun i _ e => ⟨fun _ hp => hP i hp e, fun hi => by omega⟩)⟩
end
end Go.Proofs.YtjejpgognfadoaaGreatDoor
