/-
  The reference's set: items and their queues' places, in the order in which they came; the common timeouts. Where a number is.
-/
import Derived.Test.YtncdohbdmpfefaaCoAhead
import Derived.Test.YtncdohbdmpfefaaCmRowN
namespace Go.Proofs.Ytncdohbdmpfefaa
open Go.RowKit Go.Maps Go.ChangeMaps Go.Shelf Go.Sort

/-- Rows of numbers. -/
def rowN : RowK Try.prog Int where
  e := 3
  s := 27
  n := 1
  bytes := 8
  zero := .int .i64 0
  enc := fun z => [.int .i64 z]
  pos := by decide
  by_ := by decide
  len := fun _ => rfl
  one := fun x u hu => by
    simp at hu
    subst hu; rfl
  und := Try.underlying27
  info := by kernel_rfl
  zs := by decide
def rowC : RowK Try.prog Int where
  e := 29
  s := 28
  n := 1
  bytes := 8
  zero := .int .u64 0
  enc := fun z => [.int .u64 z]
  pos := by decide
  by_ := by decide
  len := fun _ => rfl
  one := fun x u hu => by
    simp at hu
    subst hu; rfl
  und := Try.underlying28
  info := by kernel_rfl
  zs := by decide
theorem rowN_cell {w : World} {g : Nat} {l : List Int} (h : rowN.lies w g 0 l) {i : Nat} {x : Int} (hx : l[i]? = some x) : w.cell? ⟨g, i, none⟩ = some (.int .i64 x) := by
  have := h i x hx 0 (by decide)
  rw [show 0 + (i * rowN.n + 0) = i from by show 0 + (i * 1 + 0) = i; omega] at this
  exact this
theorem rowC_cell {w : World} {g : Nat} {l : List Int} (h : rowC.lies w g 0 l) {i : Nat} {x : Int} (hx : l[i]? = some x) : w.cell? ⟨g, i, none⟩ = some (.int .u64 x) := by
  have := h i x hx 0 (by decide)
  rw [show 0 + (i * rowC.n + 0) = i from by show 0 + (i * 1 + 0) = i; omega] at this
  exact this
theorem rowI_cells {w : World} {g : Nat} {l : List It} (h : rowI.lies w g 0 l) {i : Nat} {x : It} (hx : l[i]? = some x) :
    w.cell? ⟨g, i * 3, none⟩ = some (.int .i64 x.id) ∧ w.cell? ⟨g, i * 3 + 1, none⟩ = some (.int .u64 x.d) ∧ w.cell? ⟨g, i * 3 + 2, none⟩ = some (.int .u64 x.n) := by
  have h0 := h i x hx 0 (by decide)
  have h1 := h i x hx 1 (by decide)
  have h2 := h i x hx 2 (by decide)
  have e0 : 0 + (i * rowI.n + 0) = i * 3 := by show 0 + (i * 3 + 0) = i * 3; omega
  have e1 : 0 + (i * rowI.n + 1) = i * 3 + 1 := by show 0 + (i * 3 + 1) = i * 3 + 1; omega
  have e2 : 0 + (i * rowI.n + 2) = i * 3 + 2 := by show 0 + (i * 3 + 2) = i * 3 + 2; omega
  rw [e0] at h0; rw [e1] at h1; rw [e2] at h2
  exact ⟨h0, h1, h2⟩

/-- The place of a queue's timeout. -/
def qi (T : List Int) (q : Option Int) : Int := match q with
  | none => -1
  | some t => (T.idxOf t : Int)
def qs (L : List En) (T : List Int) : List Int := L.map fun e => qi T e.q

/-- The blocks of the reference's set. -/
def RO (r : Nat) (vl vq vc : Value) (k : Nat) : Prop := k = r ∨ vl.ownBlock = some k ∨ vq.ownBlock = some k ∨ vc.ownBlock = some k
structure RS (w : World) (B r : Nat) (vl vq vc : Value) (X : List It) (Q T : List Int) (nx : Int) : Prop where
  blk : Blk w r 31 #[vl, vq, vc, .int .u64 nx]
  rl : rowI.own w B vl X
  rq : rowN.own w B vq Q
  rc : rowC.own w B vc T
  nl : vl.ownBlock ≠ some r
  nq : vq.ownBlock ≠ some r
  nc : vc.ownBlock ≠ some r
  lq : ∀ k, vl.ownBlock = some k → vq.ownBlock ≠ some k
  lc : ∀ k, vl.ownBlock = some k → vc.ownBlock ≠ some k
  qc : ∀ k, vq.ownBlock = some k → vc.ownBlock ≠ some k
  hB : B ≤ r
section
variable {w w' w3 : World} {B r : Nat} {vl vq vc u : Value} {X X' : List It} {Q Q' T T' : List Int} {nx nx' : Int}
theorem RS.lt (R : RS w B r vl vq vc X Q T nx) {k : Nat} (h : RO r vl vq vc k) : k < w.heap.size ∧ B ≤ k := by
  rcases h with rfl | h | h | h
  · exact ⟨R.blk.lt, R.hB⟩
  · exact RowK.own_lt R.rl h
  · exact RowK.own_lt R.rq h
  · exact RowK.own_lt R.rc h
theorem RS.same (R : RS w B r vl vq vc X Q T nx) (e : ∀ k, RO r vl vq vc k → w'.heap[k]? = w.heap[k]?) : RS w' B r vl vq vc X Q T nx :=
  ⟨R.blk.same (e r (.inl rfl)), RowK.own_same R.rl fun k h => e k (.inr (.inl h)), RowK.own_same R.rq fun k h => e k (.inr (.inr (.inl h))), RowK.own_same R.rc fun k h => e k (.inr (.inr (.inr h))), R.nl, R.nq, R.nc, R.lq, R.lc, R.qc, R.hB⟩
theorem RS.below (R : RS w B r vl vq vc X Q T nx) (hb : Below w.heap.size w w') : RS w' B r vl vq vc X Q T nx := R.same fun k h => hb.block k (R.lt h).1
theorem RS.alloc (R : RS w B r vl vq vc X Q T nx) (o : Obj) : RS (w.alloc o) B r vl vq vc X Q T nx := R.below ((Below.refl _ w).alloc (Nat.le_refl _) _)
theorem RS.drewN (R : RS w B r vl vq vc X Q T nx) (n : Nat) : RS (w.drewN n) B r vl vq vc X Q T nx := R.same fun _ _ => rfl
theorem RS.drew (R : RS w B r vl vq vc X Q T nx) : RS w.drew B r vl vq vc X Q T nx := R.same fun _ _ => rfl
theorem RS.forms (R : RS w B r vl vq vc X Q T nx) : ∃ Al cl Aq cq Ac cc, vl = .slice Al X.length cl ∧ vq = .slice Aq Q.length cq ∧ vc = .slice Ac T.length cc := by
  obtain ⟨Al, cl, h1, -⟩ := RowK.own_shows R.rl
  obtain ⟨Aq, cq, h2, -⟩ := RowK.own_shows R.rq
  obtain ⟨Ac, cc, h3, -⟩ := RowK.own_shows R.rc
  exact ⟨Al, cl, Aq, cq, Ac, cc, h1, h2, h3⟩
/-- An append to its items, laid. -/
theorem RS.growL (R : RS w B r vl vq vc X Q T nx) (hg : w.grownBy w3 vl.ownBlock) (hu : u.ownBlock = vl.ownBlock ∨ u.ownBlock = some w.heap.size) (O : rowI.own w3 B u X') :
    RS (w3.setCell ⟨r, 0, none⟩ u) B r u vq vc X' Q T nx ∧ Mv w (w3.setCell ⟨r, 0, none⟩ u) (RO r vl vq vc) (RO r u vq vc) := by
  have hr := R.blk.lt
  have fr : ∀ k, k < w.heap.size → vl.ownBlock ≠ some k → u.ownBlock ≠ some k := fun k hk h e => by
    rcases hu with h2 | h2
    · exact h (h2 ▸ e)
    · rw [h2] at e; cases e; exact absurd hk (Nat.lt_irrefl _)
  have hne := fr r hr R.nl
  have b3 : Blk w3 r 31 #[vl, vq, vc, .int .u64 nx] := R.blk.same (hg.block r hr (fun e => R.nl e.symm))
  have st : ∀ i, i ≠ r → (w3.setCell ⟨r, 0, none⟩ u).heap[i]? = w3.heap[i]? := fun i hi => Below.heap_setCell _ _ _ _ hi
  refine ⟨⟨by simpa using b3.set_ 0 u, RowK.own_same O (fun i e => st i fun h => hne (h ▸ e)), RowK.own_same R.rq (fun i e => (st i fun h => R.nq (h ▸ e)).trans (hg.block i (RowK.own_lt R.rq e).1 (fun h => R.lq i h.symm e))), RowK.own_same R.rc (fun i e => (st i fun h => R.nc (h ▸ e)).trans (hg.block i (RowK.own_lt R.rc e).1 (fun h => R.lc i h.symm e))), hne, R.nq, R.nc, fun k e e2 => fr k (RowK.own_lt R.rq e2).1 (fun h => R.lq k h e2) e, fun k e e2 => fr k (RowK.own_lt R.rc e2).1 (fun h => R.lc k h e2) e, R.qc, R.hB⟩,
    ((Kept.refl _ w).grown hg (fun k e _ => .inr (.inl e))).setCell (p := ⟨r, 0, none⟩) (.inl rfl) u, fun i hi => ?_⟩
  rcases hi with hi | hi | hi
  · exact .inl (.inl hi)
  · rcases hu with h2 | h2
    · exact .inl (.inr (.inl (h2 ▸ hi)))
    · rw [h2] at hi; cases hi; exact .inr (Nat.le_refl _)
  · exact .inl (.inr (.inr hi))
/-- An append to its queues' places, laid. -/
theorem RS.growQ (R : RS w B r vl vq vc X Q T nx) (hg : w.grownBy w3 vq.ownBlock) (hu : u.ownBlock = vq.ownBlock ∨ u.ownBlock = some w.heap.size) (O : rowN.own w3 B u Q') :
    RS (w3.setCell ⟨r, 1, none⟩ u) B r vl u vc X Q' T nx ∧ Mv w (w3.setCell ⟨r, 1, none⟩ u) (RO r vl vq vc) (RO r vl u vc) := by
  have hr := R.blk.lt
  have fr : ∀ k, k < w.heap.size → vq.ownBlock ≠ some k → u.ownBlock ≠ some k := fun k hk h e => by
    rcases hu with h2 | h2
    · exact h (h2 ▸ e)
    · rw [h2] at e; cases e; exact absurd hk (Nat.lt_irrefl _)
  have hne := fr r hr R.nq
  have b3 : Blk w3 r 31 #[vl, vq, vc, .int .u64 nx] := R.blk.same (hg.block r hr (fun e => R.nq e.symm))
  have st : ∀ i, i ≠ r → (w3.setCell ⟨r, 1, none⟩ u).heap[i]? = w3.heap[i]? := fun i hi => Below.heap_setCell _ _ _ _ hi
  refine ⟨⟨by simpa using b3.set_ 1 u, RowK.own_same R.rl (fun i e => (st i fun h => R.nl (h ▸ e)).trans (hg.block i (RowK.own_lt R.rl e).1 (fun h => R.lq i e h.symm))), RowK.own_same O (fun i e => st i fun h => hne (h ▸ e)), RowK.own_same R.rc (fun i e => (st i fun h => R.nc (h ▸ e)).trans (hg.block i (RowK.own_lt R.rc e).1 (fun h => R.qc i h.symm e))), R.nl, hne, R.nc, fun k e e2 => fr k (RowK.own_lt R.rl e).1 (fun h => R.lq k e h) e2, R.lc, fun k e e2 => fr k (RowK.own_lt R.rc e2).1 (fun h => R.qc k h e2) e, R.hB⟩,
    ((Kept.refl _ w).grown hg (fun k e _ => .inr (.inr (.inl e)))).setCell (p := ⟨r, 1, none⟩) (.inl rfl) u, fun i hi => ?_⟩
  rcases hi with hi | hi | hi | hi
  · exact .inl (.inl hi)
  · exact .inl (.inr (.inl hi))
  · rcases hu with h2 | h2
    · exact .inl (.inr (.inr (.inl (h2 ▸ hi))))
    · rw [h2] at hi; cases hi; exact .inr (Nat.le_refl _)
  · exact .inl (.inr (.inr (.inr hi)))
/-- An append to the common timeouts, laid. -/
theorem RS.growC (R : RS w B r vl vq vc X Q T nx) (hg : w.grownBy w3 vc.ownBlock) (hu : u.ownBlock = vc.ownBlock ∨ u.ownBlock = some w.heap.size) (O : rowC.own w3 B u T') :
    RS (w3.setCell ⟨r, 2, none⟩ u) B r vl vq u X Q T' nx ∧ Mv w (w3.setCell ⟨r, 2, none⟩ u) (RO r vl vq vc) (RO r vl vq u) := by
  have hr := R.blk.lt
  have fr : ∀ k, k < w.heap.size → vc.ownBlock ≠ some k → u.ownBlock ≠ some k := fun k hk h e => by
    rcases hu with h2 | h2
    · exact h (h2 ▸ e)
    · rw [h2] at e; cases e; exact absurd hk (Nat.lt_irrefl _)
  have hne := fr r hr R.nc
  have b3 : Blk w3 r 31 #[vl, vq, vc, .int .u64 nx] := R.blk.same (hg.block r hr (fun e => R.nc e.symm))
  have st : ∀ i, i ≠ r → (w3.setCell ⟨r, 2, none⟩ u).heap[i]? = w3.heap[i]? := fun i hi => Below.heap_setCell _ _ _ _ hi
  refine ⟨⟨by simpa using b3.set_ 2 u, RowK.own_same R.rl (fun i e => (st i fun h => R.nl (h ▸ e)).trans (hg.block i (RowK.own_lt R.rl e).1 (fun h => R.lc i e h.symm))), RowK.own_same R.rq (fun i e => (st i fun h => R.nq (h ▸ e)).trans (hg.block i (RowK.own_lt R.rq e).1 (fun h => R.qc i e h.symm))), RowK.own_same O (fun i e => st i fun h => hne (h ▸ e)), R.nl, R.nq, hne, R.lq, fun k e e2 => fr k (RowK.own_lt R.rl e).1 (fun h => R.lc k e h) e2, fun k e e2 => fr k (RowK.own_lt R.rq e).1 (fun h => R.qc k e h) e2, R.hB⟩,
    ((Kept.refl _ w).grown hg (fun k e _ => .inr (.inr (.inr e)))).setCell (p := ⟨r, 2, none⟩) (.inl rfl) u, fun i hi => ?_⟩
  rcases hi with hi | hi | hi | hi
  · exact .inl (.inl hi)
  · exact .inl (.inr (.inl hi))
  · exact .inl (.inr (.inr (.inl hi)))
  · rcases hu with h2 | h2
    · exact .inl (.inr (.inr (.inr (h2 ▸ hi))))
    · rw [h2] at hi; cases hi; exact .inr (Nat.le_refl _)
/-- Behind Next++. -/
theorem RS.next (R : RS w B r vl vq vc X Q T nx) : RS (w.setCell ⟨r, 3, none⟩ (.int .u64 nx')) B r vl vq vc X Q T nx' ∧ Mv w (w.setCell ⟨r, 3, none⟩ (.int .u64 nx')) (RO r vl vq vc) (RO r vl vq vc) := by
  have st : ∀ i, i ≠ r → (w.setCell ⟨r, 3, none⟩ (.int .u64 nx')).heap[i]? = w.heap[i]? := fun i hi => Below.heap_setCell _ _ _ _ hi
  exact ⟨⟨by simpa using R.blk.set_ 3 (.int .u64 nx'), RowK.own_same R.rl (fun i e => st i fun h => R.nl (h ▸ e)), RowK.own_same R.rq (fun i e => st i fun h => R.nq (h ▸ e)), RowK.own_same R.rc (fun i e => st i fun h => R.nc (h ▸ e)), R.nl, R.nq, R.nc, R.lq, R.lc, R.qc, R.hB⟩,
    (Kept.refl _ w).setCell (p := ⟨r, 3, none⟩) (.inl rfl) _, fun i hi => .inl hi⟩
/-- Items and queues' places laid anew. -/
theorem RS.anew {u2 : Value} (R : RS w B r vl vq vc X Q T nx) (hb : Below w.heap.size w w3) (O : rowI.own w3 w.heap.size u X') (O2 : rowN.own w3 w.heap.size u2 Q') (ha : ∀ k, u.ownBlock = some k → u2.ownBlock ≠ some k) :
    RS ((w3.setCell ⟨r, 0, none⟩ u).setCell ⟨r, 1, none⟩ u2) B r u u2 vc X' Q' T nx ∧ Mv w ((w3.setCell ⟨r, 0, none⟩ u).setCell ⟨r, 1, none⟩ u2) (RO r vl vq vc) (RO r u u2 vc) := by
  have hr := R.blk.lt
  have n1 : u.ownBlock ≠ some r := fun e => by have := (RowK.own_lt O e).2; omega
  have n2 : u2.ownBlock ≠ some r := fun e => by have := (RowK.own_lt O2 e).2; omega
  have b3 : Blk w3 r 31 #[vl, vq, vc, .int .u64 nx] := R.blk.same (hb.block r hr)
  have st : ∀ i, i ≠ r → ((w3.setCell ⟨r, 0, none⟩ u).setCell ⟨r, 1, none⟩ u2).heap[i]? = w3.heap[i]? := fun i hi => (Below.heap_setCell _ _ _ _ hi).trans (Below.heap_setCell _ _ _ _ hi)
  have b5 := (b3.set_ 0 u).set_ 1 u2
  refine ⟨⟨by simpa using b5, RowK.own_more (RowK.own_same O (fun i e => st i fun h => n1 (h ▸ e))) (Nat.le_trans R.hB (Nat.le_of_lt hr)), RowK.own_more (RowK.own_same O2 (fun i e => st i fun h => n2 (h ▸ e))) (Nat.le_trans R.hB (Nat.le_of_lt hr)), RowK.own_same R.rc (fun i e => (st i fun h => R.nc (h ▸ e)).trans (hb.block i (RowK.own_lt R.rc e).1)), n1, n2, R.nc, ha,
    fun k e e2 => by have := (RowK.own_lt O e).2; have := (RowK.own_lt R.rc e2).1; omega, fun k e e2 => by have := (RowK.own_lt O2 e).2; have := (RowK.own_lt R.rc e2).1; omega, R.hB⟩,
    ((Kept.of_below hb).setCell (p := ⟨r, 0, none⟩) (.inl rfl) u).setCell (p := ⟨r, 1, none⟩) (.inl rfl) u2, fun i hi => ?_⟩
  rcases hi with hi | hi | hi | hi
  · exact .inl (.inl hi)
  · exact .inr (RowK.own_lt O hi).2
  · exact .inr (RowK.own_lt O2 hi).2
  · exact .inl (.inr (.inr (.inr hi)))
end

/-- Where a number is. -/
theorem cfind_some {w : World} {B r : Nat} {vl vq vc : Value} {X : List It} {Q T : List Int} {nx : Int} (R : RS w B r vl vq vc X Q T nx) (hlen : X.length ≤ 1000) (hu : Uniq X) {j : Nat} {x : It} (hx : X[j]? = some x) : Calls Try.prog 34 #[.pointer (some ⟨r, 0, none⟩), .int .i64 x.id] w fun e w' => e = .returned (.int .i64 (j : Int)) ∧ w = w' := by
  have hjl := (List.getElem?_eq_some_iff.1 hx).1
  rcases RowK.own_form R.rl with ⟨_, rfl⟩ | ⟨g, c, rfl, hc, hg, _, hl⟩
  · simp at hjl
  have c1 := R.blk.cell 0
  have rl := R.blk.lt
  simp at c1
  have HR := Lib.hid (And.intro hl (And.intro hu hx))
  clear hl hx hu R
  go_enter Try.func34, Try.ntmps34
  go_wp2_with fail
  go_loop [5] (fun i => ∃ k : Nat, i = .int .i64 (k : Int) ∧ k ≤ j) (fun i => X.length - (intOf i).toNat)
  case atStart => exact ⟨0, rfl, Nat.zero_le _⟩
  case round =>
    obtain ⟨k, rfl, hk⟩ := hrel
    have b0 : (0 : Int) ≤ (k : Int) := by omega
    have b1 : (k : Int) < (X.length : Int) := by omega
    have hy := List.getElem?_eq_getElem (l := X) (i := k) (by omega)
    obtain ⟨y, ey⟩ : ∃ y, y = X[k]'(by omega) := ⟨_, rfl⟩
    rw [← ey] at hy
    obtain ⟨y0, y1, y2⟩ := rowI_cells HR.out.1 hy
    by_cases hkj : k = j
    · subst hkj
      have e : y = x := by have := HR.out.2.2; rw [this] at hy; cases hy; rfl
      have ee : (y.id == x.id) = true := by rw [e]; simp
      rw [e] at y0
      clear hy ey y1 y2 e ee
      go_wp2_with fail
      go_ret
      exact ⟨rfl, rfl⟩
    · have ne : (y.id == x.id) = false := by
        have h1 : (X.map (·.id)).Nodup := HR.out.2.1
        have h2 : (X.map (·.id))[k]? = some y.id := by rw [List.getElem?_map, hy]; rfl
        have h3 : (X.map (·.id))[j]? = some x.id := by rw [List.getElem?_map, HR.out.2.2]; rfl
        simp only [beq_eq_false_iff_ne]
        intro e
        rw [e, ← h3] at h2
        exact hkj ((List.getElem?_inj (by simpa using (by omega : k < X.length)) h1).1 h2)
      have hkl : k < j := by omega
      clear hy ey y1 y2 hkj
      go_wp2_with fail
      go_round
      case rel => exact ⟨k + 1, by go_num, by omega⟩
      case measure => simp [intOf]; omega
theorem cfind_no {w : World} {B r : Nat} {vl vq vc : Value} {X : List It} {Q T : List Int} {nx : Int} (R : RS w B r vl vq vc X Q T nx) (hlen : X.length ≤ 1000) {id : Int} (hid : ∀ y ∈ X, y.id ≠ id) : Calls Try.prog 34 #[.pointer (some ⟨r, 0, none⟩), .int .i64 id] w fun e w' => e = .returned (.int .i64 (-1)) ∧ w = w' := by
  obtain ⟨A, c, hv, hs, -⟩ := RowK.own_shows R.rl
  have hf := RowK.own_form R.rl
  subst hv
  have c1 := R.blk.cell 0
  have rl := R.blk.lt
  simp at c1
  have HR := Lib.hid (And.intro hf hid)
  clear hs hid R hf
  go_enter Try.func34, Try.ntmps34
  go_wp2_with fail
  go_loop [5] (fun i => ∃ k : Nat, i = .int .i64 (k : Int) ∧ k ≤ X.length) (fun i => X.length - (intOf i).toNat)
  case atStart => exact ⟨0, rfl, Nat.zero_le _⟩
  case round =>
    obtain ⟨k, rfl, hk⟩ := hrel
    by_cases hlt : k < X.length
    · rcases HR.out.1 with ⟨_, rfl⟩ | ⟨g, c', e, hc, hg, _, hl⟩
      · simp at hlt
      injection e with e1 e2 e3
      subst e1
      have b0 : (0 : Int) ≤ (k : Int) := by omega
      have b1 : (k : Int) < (X.length : Int) := by omega
      have hy := List.getElem?_eq_getElem hlt
      obtain ⟨y, ey⟩ : ∃ y, y = X[k] := ⟨_, rfl⟩
      rw [← ey] at hy
      obtain ⟨y0, y1, y2⟩ := rowI_cells hl hy
      have ne : (y.id == id) = false := by simpa using HR.out.2 y (List.mem_of_getElem? hy)
      clear hy ey y1 y2 hl e2 e3
      go_wp2_with fail
      go_round
      case rel => exact ⟨k + 1, by go_num, by omega⟩
      case measure => simp [intOf]; omega
    · obtain rfl : k = X.length := by omega
      go_wp2_with fail
      go_ret
      exact ⟨rfl, rfl⟩
end Go.Proofs.Ytncdohbdmpfefaa
