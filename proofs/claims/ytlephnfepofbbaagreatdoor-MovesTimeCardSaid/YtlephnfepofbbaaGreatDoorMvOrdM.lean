/-
  The reader's order, in memory: rows that keep away from the boxes of a loop.
-/
import Derived.Test.YtlephnfepofbbaaGreatDoorMvPart
import Derived.Test.YtlephnfepofbbaaGreatDoorMvSplitC
namespace Go.Proofs.YtlephnfepofbbaaGreatDoor
open Go.RowKit Go.Shelf Go.Maps Go.ChangeMaps

def OwnD (D : Nat → Prop) (v : Value) : Prop := ∀ k, v.ownBlock = some k → D k
/-- A reader's rows, each in a block that D allows. -/
structure RwsD (N : Nat) (D : Nat → Prop) (ov mvv dv : Value) (ord : List Int) (ms : List Mo) (b : List UInt8) (W : World) : Prop where
  ord : RIn.own W N ov ord
  od : OwnD D ov
  mvs : ∃ ps : List Ms, ps.map Ms.m = ms ∧ RM.own W N mvv ps ∧ ∀ p ∈ ps, OwB N W p.v p.m.b ∧ OwnD D p.v
  md : OwnD D mvv
  dat : OwB N W dv b
  dd : OwnD D dv
/-- The kinds of such rows. -/
def Kd (t : TypeId) : Prop := t = 3 ∨ t = 25 ∨ t = 5
section
variable {N : Nat} {D : Nat → Prop} {ov mvv dv : Value} {ord : List Int} {ms : List Mo} {b : List UInt8} {W W' : World}
theorem OwB.keepD {v : Value} {bs : List UInt8} (h : OwB N W v bs) (hd : OwnD D v) (k : ∀ i t c fz, D i → Kd t → W.heap[i]? = some (.cells c t fz) → W'.heap[i]? = W.heap[i]?) : OwB N W' v bs := h.same fun g e _ => by
  obtain ⟨c, fz, hg⟩ := Lib.ownsRow_kind h g e
  exact k g _ c fz (hd g e) (.inr (.inr rfl)) hg
theorem RowK.own_keepD {α : Type} {R : RowK Tryz.prog α} {v : Value} {xs : List α} (hk : Kd R.e) (h : R.own W N v xs) (hd : OwnD D v) (k : ∀ i t c fz, D i → Kd t → W.heap[i]? = some (.cells c t fz) → W'.heap[i]? = W.heap[i]?) : R.own W' N v xs := RowK.own_same h fun g e => by
  obtain ⟨c, fz, hg⟩ := Lib.ownsRow_kind h g e
  exact k g _ c fz (hd g e) hk hg
theorem RwsD.keep (h : RwsD N D ov mvv dv ord ms b W) (k : ∀ i t c fz, D i → Kd t → W.heap[i]? = some (.cells c t fz) → W'.heap[i]? = W.heap[i]?) : RwsD N D ov mvv dv ord ms b W' := by
  obtain ⟨h1, h2, ⟨ps, e, h3, h4⟩, h5, h6, h7⟩ := h
  exact ⟨RowK.own_keepD (.inl rfl) h1 h2 k, h2, ⟨ps, e, RowK.own_keepD (.inr (.inl rfl)) h3 h5 k, fun p hp => ⟨(h4 p hp).1.keepD (h4 p hp).2 k, (h4 p hp).2⟩⟩, h5, h6.keepD h7 k, h7⟩
theorem RwsD.below (h : RwsD N D ov mvv dv ord ms b W) (k : Below W.heap.size W W') : RwsD N D ov mvv dv ord ms b W' := h.keep fun i t c fz _ _ hi => k.block i (Array.getElem?_eq_some_iff.1 hi).1
theorem RwsD.set (h : RwsD N D ov mvv dv ord ms b W) {q : Nat} (hq : ¬ D q) (i : Nat) (v : Value) : RwsD N D ov mvv dv ord ms b (W.setCell ⟨q, i, none⟩ v) := h.keep fun k t c fz hk _ _ => Below.heap_setCell W _ v k (by show k ≠ q; intro e; subst e; exact hq hk)
theorem RwsD.put (h : RwsD N D ov mvv dv ord ms b W) {row : Option Nat} (hg : W.grownBy W' row) (hr : ∀ r, row = some r → ∃ o : Obj, W.heap[r]? = some o ∧ o.isCells = false) : RwsD N D ov mvv dv ord ms b W' := h.keep fun k t c fz _ _ hi => hg.block k (Array.getElem?_eq_some_iff.1 hi).1 (fun e => by
  obtain ⟨o, ho, hc⟩ := hr k e.symm
  rw [hi] at ho
  injection ho with ho
  subst ho; cases hc)
theorem RwsD.toR (h : RwsD N D ov mvv dv ord ms b W) : Rws N ov mvv dv ord ms b W := by
  obtain ⟨h1, h2, ⟨ps, e, h3, h4⟩, h5, h6, h7⟩ := h
  exact ⟨h1, ⟨ps, e, h3, fun p hp => (h4 p hp).1⟩, h6⟩
theorem OwB.ltD {v : Value} {bs : List UInt8} (h : OwB N W v bs) (hD : ∀ k, N ≤ k → k < W.heap.size → D k) : OwnD D v := fun k e => by
  obtain ⟨c, fz, hg⟩ := Lib.ownsRow_kind h k e
  rcases h.2 with ⟨rfl, _⟩ | ⟨g', cap, cur, rfl, hb, _⟩
  · cases e
  · have : g' = k := Option.some.inj e
    subst this; exact hD _ hb (Array.getElem?_eq_some_iff.1 hg).1
theorem Rws.toD (h : Rws N ov mvv dv ord ms b W) (hD : ∀ k, N ≤ k → k < W.heap.size → D k) : RwsD N D ov mvv dv ord ms b W := by
  obtain ⟨h1, ⟨ps, e, h3, h4⟩, h6⟩ := h
  exact ⟨h1, fun k e => hD k (RowK.own_lt h1 e).2 (RowK.own_lt h1 e).1, ⟨ps, e, h3, fun p hp => ⟨h4 p hp, (h4 p hp).ltD hD⟩⟩, fun k e => hD k (RowK.own_lt h3 e).2 (RowK.own_lt h3 e).1, h6, h6.ltD hD⟩
theorem RwsD.ordg (h : RwsD N D ov mvv dv ord ms b W) {ov' : Value} {ord' : List Int} (ho : RIn.own W' N ov' ord') (hg : W.grownBy W' ov.ownBlock) (hd : OwnD D ov') : RwsD N D ov' mvv dv ord' ms b W' := by
  obtain ⟨h1, h2, ⟨ps, e, h3, h4⟩, h5, h6, h7⟩ := h
  have k : Lib.OthersKept 3 none W W' := (Lib.OthersKept.refl _ _ _).grown hg (Lib.ownsRow_kind h1)
  exact ⟨ho, hd, ⟨ps, e, RowK.own_oth h3 k (by decide), fun p hp => ⟨(h4 p hp).1.oth k (by decide), (h4 p hp).2⟩⟩, h5, h6.oth k (by decide), h7⟩
end
section
variable {N g : Nat} {w w' w'' : World}
theorem Fs.put (h : Fs N g w w') {row : Option Nat} (hg : w'.grownBy w'' row) (hr : ∀ r, row = some r → N ≤ r ∧ w.heap.size ≤ r) : Fs N g w w'' :=
  ⟨h.k.grown hg (fun k e _ => .inr (hr k e).1), ⟨Nat.le_trans h.o.size hg.size, fun k o hk ho => (hg.block k (Nat.lt_of_lt_of_le (Array.getElem?_eq_some_iff.1 hk).1 h.o.size) (fun e => by
    have h1 := (hr k e.symm).2
    have h2 := (Array.getElem?_eq_some_iff.1 hk).1
    omega)).trans (h.o.same k o hk ho)⟩⟩
theorem Fs.cell (h : Fs N g w w') {q : Nat} (hq : N ≤ q) (i : Nat) (v : Value) : Fs N g w (w'.setCell ⟨q, i, none⟩ v) := ⟨h.k.setCell (p := ⟨q, i, none⟩) (.inr hq) v, h.o.trans (KeepsOthers.setCell _ _ _)⟩
theorem Fs.under (h : Fs N g w w') (k : Below w'.heap.size w' w'') : Fs N g w w'' := h.trans (Fs.of k)
end
theorem boxed_grow {W W' : World} {B : Nat} {t : TypeId} {v : Value} {row : Option Nat} (h : Boxed W B t v) (hg : W.grownBy W' row) (hr : ∀ r, row = some r → ∃ o : Obj, W.heap[r]? = some o ∧ o.isCells = false) : Boxed W' B t v := (hg.block B h.lt (fun e => by
  obtain ⟨o, ho, hc⟩ := hr B e.symm
  have h' : W.heap[B]? = _ := h
  rw [h'] at ho
  injection ho with ho
  subst ho; cases hc)).trans h

/-- Where a round of the order's loop begins: H: where the loop's own blocks begin; h: where the call's. -/
def OrdI (N g h H : Nat) (st : St) (mv : Mo) (w : World) (pre : List Piece) (W : World) : Prop := ∃ l ov mvv dv,
  (∀ rest, ordP (lstOf pre ++ rest) st.ord = ordP rest l) ∧ l.length ≤ 50 ∧
  Blk W g 127 #[.int .i64 2, .int .u64 (st.t : Int), .bool st.intr, ov, mvv, .int .i64 mv.op, .int .i64 mv.wire, .int .i64 mv.n, dv] ∧
  RwsD N (fun k => N ≤ k ∧ (k < h ∨ H ≤ k)) ov mvv dv l st.mv mv.b W ∧ Boxed W h 147 (.pointer (some ⟨g, 0, none⟩)) ∧ Boxed W (h + 1) 3 (.int .i64 0) ∧ Fs N g w W ∧ H ≤ W.heap.size
/-- Where the loop has been left. -/
def OrdX (N g h : Nat) (st : St) (w : World) (c : Code) (pre : List Piece) (W : World) : Prop :=
  c = .ret ∧ (∀ rest, ordP (lstOf pre ++ rest) st.ord = none) ∧ Rdx g W ∧ Boxed W (h + 1) 3 (.int .i64 9) ∧ Fs N g w W
theorem blk_put {W W' : World} {g : Nat} {t : TypeId} {cs : Array Value} {row : Option Nat} (h : Blk W g t cs) (hg : W.grownBy W' row) (hr : ∀ r, row = some r → ∃ o : Obj, W.heap[r]? = some o ∧ o.isCells = false) : Blk W' g t cs := (hg.block g h.lt (fun e => by
  obtain ⟨o, ho, hc⟩ := hr g e.symm
  have h' : W.heap[g]? = _ := h
  rw [h'] at ho
  injection ho with ho
  subst ho; cases hc)).trans h
theorem ordI_own (N g h H : Nat) (st : St) (mv : Mo) (w : World) (hN : N ≤ H) (hw : w.heap.size ≤ H) : OwnFrom H (OrdI N g h H st mv w) := fun s A B row hs hg hr => by
  obtain ⟨l, ov, mvv, dv, h1, h2, h3, h4, h5, h6, h7, h8⟩ := hs
  have hr2 := fun r e => (hr r e).2
  exact ⟨l, ov, mvv, dv, h1, h2, blk_put h3 hg hr2, h4.put hg hr2, boxed_grow h5 hg hr2, boxed_grow h6 hg hr2, h7.put hg (fun r e => ⟨Nat.le_trans hN (hr r e).1, Nat.le_trans hw (hr r e).1⟩), Nat.le_trans h8 hg.size⟩
theorem ordX_own (N g h H : Nat) (st : St) (w : World) (hN : N ≤ H) (hw : w.heap.size ≤ H) (c : Code) : OwnFrom H (OrdX N g h st w c) := fun s A B row hs hg hr => by
  obtain ⟨h1, h2, ⟨cs, h3, h3'⟩, h4, h5⟩ := hs
  have hr2 := fun r e => (hr r e).2
  exact ⟨h1, h2, ⟨cs, blk_put h3 hg hr2, h3'⟩, boxed_grow h4 hg hr2, h5.put hg (fun r e => ⟨Nat.le_trans hN (hr r e).1, Nat.le_trans hw (hr r e).1⟩)⟩
end Go.Proofs.YtlephnfepofbbaaGreatDoor
