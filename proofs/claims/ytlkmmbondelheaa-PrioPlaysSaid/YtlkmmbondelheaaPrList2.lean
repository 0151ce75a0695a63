/-
  List: the items of a priority, as a new slice.
-/
import Derived.Test.YtlkmmbondelheaaPrItems
import Derived.Maps.AppendAt
import Derived.Deep.AppendLies
namespace Go.Proofs.Ytlkmmbondelheaa
open Go.RowKit Go.Maps Go.ChangeMaps Go.Shelf

attribute [local go_sem] Oper.semAt_some

def encL (P : List It) : List Value := P.flatMap fun x => [.int .i64 x.id, .int .i64 x.fl, .int .i64 x.ct]
theorem encL_snoc (P : List It) (x : It) : encL P ++ [.int .i64 x.id, .int .i64 x.fl, .int .i64 x.ct] = encL (P ++ [x]) := by simp [encL]
/-- A row of its own that the slice v names, with the items P. -/
def OwnI (W : World) (B : Nat) (v : Value) (P : List It) : Prop := W.ownsRow B 44 3 v P.length (encL P)
/-- Row blocks. -/
def TI (o : Obj) : Prop := ∃ cs mk, o = .cells cs 44 mk
theorem TI_cells : ∀ o, TI o → o.isCells = true := fun o ⟨cs, mk, e⟩ => by subst e; rfl
theorem TI_t : ∀ cs t mk, TI (.cells cs t mk) → t = 44 := fun cs t mk ⟨_, _, e⟩ => by injection e
theorem own_same {w w' : World} {base : Nat} {e : TypeId} {size n : Nat} {v : Value} {xs : List Value} (h : w.ownsRow base e size v n xs) (hk : ∀ k, v.ownBlock = some k → w'.heap[k]? = w.heap[k]?) : w'.ownsRow base e size v n xs := by
  obtain ⟨h1, h2⟩ := h
  refine ⟨h1, ?_⟩
  rcases h2 with h2 | ⟨g, cap, cur, rfl, hg, hh, r⟩
  · exact .inl h2
  · exact .inr ⟨g, cap, cur, rfl, hg, (hk g rfl).trans hh, r⟩
theorem own_lt {w : World} {base : Nat} {e : TypeId} {size n : Nat} {v : Value} {xs : List Value} (h : w.ownsRow base e size v n xs) {k : Nat} (hk : v.ownBlock = some k) : k < w.heap.size ∧ base ≤ k ∧ ∃ cs mk, w.heap[k]? = some (.cells cs e mk) := by
  rcases h.2 with ⟨rfl, _⟩ | ⟨g, cap, cur, rfl, hg, hh, _⟩
  · cases hk
  · cases hk; exact ⟨(Array.getElem?_eq_some_iff.1 hh).1, hg, _, _, hh⟩
theorem infoIt : (Try.prog.info? 44).map (fun i => (i.zero, i.size, i.bytes)) = some (some (.agg #[.int .i64 0, .int .i64 0, .int .i64 0]), 3, 24) := by kernel_rfl
theorem info_parts {o : Option TypeInfo} {z : Option Value} {s b : Nat} (h : o.map (fun i => (i.zero, i.size, i.bytes)) = some (z, s, b)) : ∃ i, o = some i ∧ i.zero = z ∧ i.size = s ∧ i.bytes = b := by
  cases o with
  | none => simp at h
  | some i => simp at h; exact ⟨i, rfl, h.1, h.2.1, h.2.2⟩

/-- The box of a slice that has been collected so far. -/
structure ColI (w : World) (bL : Nat) (pre : List It) (W : World) : Prop where
  row : ∃ v, Boxed W bL 39 v ∧ OwnI W w.heap.size v pre
  bel : Below w.heap.size w W
theorem ColI.stab {w : World} {bL N : Nat} {pre : List It} {X Y : World} (h : ColI w bL pre X) (hc : ChR N X Y) (hN : w.heap.size ≤ N) : ColI w bL pre Y := by
  obtain ⟨⟨v, h1, h2⟩, h3⟩ := h
  refine ⟨⟨v, hc.cells _ _ h1 rfl, own_same h2 fun k hk => ?_⟩, ⟨hc.os.trans h3.os, hc.tape.trans h3.tape, hc.output.trans h3.output, Nat.le_trans h3.size hc.size, fun k hk => (hc.low k (by omega) (Nat.lt_of_lt_of_le hk h3.size)).trans (h3.block k hk)⟩⟩
  obtain ⟨_, _, cs, mk, e⟩ := own_lt h2 hk
  rw [e]
  exact hc.cells _ _ e rfl
theorem ColI.kept {w : World} {bL : Nat} {pre : List It} {X Y : World} (h : ColI w bL pre X) (k : Kept (fun _ => False) X Y) : ColI w bL pre Y := h.stab (ChO.of_kept k).toR (Nat.le_refl _)

/-- One more is appended: what becomes of the world. -/
theorem ColI.more {w : World} {bL N : Nat} {pre : List It} {x : It} {v v' : Value} {W W1 : World} {Pr : Nat → Prop} (hB : Below w.heap.size w W) (hbL : w.heap.size ≤ bL ∧ bL < N) (hPr : ∀ i, Pr i → i < w.heap.size ∨ (i < N ∧ i ≠ bL ∧ ∀ cs mk, W.heap[i]? ≠ some (.cells cs 44 mk)))
    (hv : Boxed W bL 39 v) (hrow : OwnI W w.heap.size v pre)
    (hown : W1.ownsRow w.heap.size 44 3 v' (pre.length + 1) (encL pre ++ [.int .i64 x.id, .int .i64 x.fl, .int .i64 x.ct]))
    (hg : (W.alloc (.cells #[.int .i64 x.id, .int .i64 x.fl, .int .i64 x.ct] 44)).grownBy W1 v.ownBlock) :
    Boxed W1 bL 39 v ∧ ColI w bL (pre ++ [x]) (W1.setCell ⟨bL, 0, none⟩ v') ∧ KeepsFrom N W (W1.setCell ⟨bL, 0, none⟩ v') ∧ KpO TI N Pr W (W1.setCell ⟨bL, 0, none⟩ v') := by
  have lb := hv.lt
  have hne : ∀ k, v.ownBlock = some k → k ≠ bL := fun k hk e => by
    obtain ⟨_, _, cs, mk, h⟩ := own_lt hrow hk
    subst e
    rw [show W.heap[k]? = _ from hv] at h
    injection h with h; injection h with _ h
    revert h; decide
  have k1 : Kept (fun k => v.ownBlock = some k) W W1 := ((Kept.refl _ W).alloc _).grown hg (fun k e _ => e)
  have hv1 : Boxed W1 bL 39 v := (k1.block _ lb (fun e => hne _ e rfl)).trans hv
  have k2 : Kept (fun k => v.ownBlock = some k ∨ k = bL) W (W1.setCell ⟨bL, 0, none⟩ v') := (k1.mono fun _ _ e => .inl e).setCell (p := ⟨bL, 0, none⟩) (.inr rfl) _
  have hv2 : Boxed (W1.setCell ⟨bL, 0, none⟩ v') bL 39 v' := by
    have hb1 : Blk W1 bL 39 #[v] := hv1
    have := hb1.set_ 0 v'
    simpa [Boxed, Blk] using this
  have hown2 : OwnI (W1.setCell ⟨bL, 0, none⟩ v') w.heap.size v' (pre ++ [x]) := by
    rw [encL_snoc] at hown
    have h2 := own_same (w' := W1.setCell ⟨bL, 0, none⟩ v') hown fun k hk => Below.heap_setCell _ _ _ _ (fun e => by
      obtain ⟨_, _, cs, mk, h⟩ := own_lt hown hk
      simp only at e
      subst e
      rw [show W1.heap[k]? = _ from hv1] at h
      injection h with h; injection h with _ h
      revert h; decide)
    unfold OwnI
    simpa using h2
  have hbel : Below w.heap.size W (W1.setCell ⟨bL, 0, none⟩ v') := k2.below (fun k e => by
    rcases e with e | rfl
    · exact (own_lt hrow e).2.1
    · exact hbL.1) hB.size
  refine ⟨hv1, ⟨⟨v', hv2, hown2⟩, hB.trans (hbel.mono (Nat.le_refl _))⟩, KeepsFrom.of_kept k2 (fun k o _ ho e => ?_), KpO.of_kept k2 (fun k hk e => ⟨fun hkN hp => ?_, fun hkN o ho => ?_⟩)⟩
  · rcases e with e | rfl
    · obtain ⟨_, _, cs, mk, h⟩ := own_lt hrow e
      rw [h] at ho; cases ho; rfl
    · rw [show W.heap[k]? = _ from hv] at ho; cases ho; rfl
  · rcases e with e | rfl
    · obtain ⟨_, h1, cs, mk, h⟩ := own_lt hrow e
      rcases hPr k hp with h2 | ⟨_, _, h2⟩
      · omega
      · exact h2 _ _ h
    · rcases hPr k hp with h2 | ⟨_, h2, _⟩
      · omega
      · exact h2 rfl
  · rcases e with e | rfl
    · obtain ⟨_, _, cs, mk, h⟩ := own_lt hrow e
      rw [h] at ho; cases ho
      exact ⟨_, _, rfl⟩
    · omega

def Listed (w : World) (P : List It) (e : Ending) (w' : World) : Prop := ∃ v, e = .returned v ∧ OwnI w' w.heap.size v P ∧ Below w.heap.size w w'
end Go.Proofs.Ytlkmmbondelheaa
