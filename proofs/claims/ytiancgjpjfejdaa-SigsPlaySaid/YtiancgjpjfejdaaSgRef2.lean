/-
  The reference's table: how it lies in memory; Handle and Raise.
-/
import Derived.Test.YtiancgjpjfejdaaSgRef
namespace Go.Proofs.Ytiancgjpjfejdaa
open Go.RowKit

/-- The blocks of the reference's table. -/
def Fr (r : Nat) (vh vr : Value) (i : Nat) : Prop := i = r ∨ vh.ownBlock = some i ∨ vr.ownBlock = some i
structure Rf (w : World) (B r : Nat) (vh vr : Value) (H L : List Nat) : Prop where
  blk : Blk w r 27 #[vh, vr]
  oh : RN.own w B vh H
  ol : RN.own w B vr L
  nh : vh.ownBlock ≠ some r
  nr : vr.ownBlock ≠ some r
  ne : ∀ i, vh.ownBlock = some i → vr.ownBlock ≠ some i
  hr : B ≤ r
/-- What a call does to its blocks. -/
structure Rmv (w w' : World) (r : Nat) (vh vr vh' vr' : Value) : Prop where
  k : Kept (Fr r vh vr) w w'
  o : ∀ i, Fr r vh' vr' i → Fr r vh vr i ∨ w.heap.size ≤ i
section
variable {w w' : World} {B r : Nat} {vh vr v : Value} {H L H' : List Nat}
theorem Rf.lt (R : Rf w B r vh vr H L) {i : Nat} (h : Fr r vh vr i) : i < w.heap.size ∧ B ≤ i := by
  rcases h with rfl | h | h
  · exact ⟨R.blk.lt, R.hr⟩
  · exact RowK.own_lt R.oh h
  · exact RowK.own_lt R.ol h
theorem Rf.same (R : Rf w B r vh vr H L) (h : ∀ i, Fr r vh vr i → w'.heap[i]? = w.heap[i]?) : Rf w' B r vh vr H L :=
  ⟨R.blk.same (h r (.inl rfl)), RowK.own_same R.oh fun i e => h i (.inr (.inl e)), RowK.own_same R.ol fun i e => h i (.inr (.inr e)), R.nh, R.nr, R.ne, R.hr⟩
theorem Rf.below (R : Rf w B r vh vr H L) (h : Below w.heap.size w w') : Rf w' B r vh vr H L := R.same fun i hi => h.block i (R.lt hi).1
theorem Rf.kept {F : Nat → Prop} (R : Rf w B r vh vr H L) (h : Kept F w w') (hf : ∀ i, Fr r vh vr i → ¬ F i) : Rf w' B r vh vr H L := R.same fun i hi => h.block i (R.lt hi).1 (hf i hi)
theorem Rf.alloc (R : Rf w B r vh vr H L) (o : Obj) : Rf (w.alloc o) B r vh vr H L := R.below ((Below.refl _ w).alloc (Nat.le_refl _) _)
theorem Rf.cells (R : Rf w B r vh vr H L) : w.cell? ⟨r, 0, none⟩ = some vh ∧ w.cell? ⟨r, 1, none⟩ = some vr ∧ r < w.heap.size ∧ w.frozen? ⟨r, 0, none⟩ = false ∧ w.frozen? ⟨r, 1, none⟩ = false :=
  ⟨R.blk.cell 0, R.blk.cell 1, R.blk.lt, R.blk.frozen 0, R.blk.frozen 1⟩
theorem Rf.setH (R : Rf w B r vh vr H L) (O : RN.own w B v H') (n1 : v.ownBlock ≠ some r) (n2 : ∀ i, v.ownBlock = some i → vr.ownBlock ≠ some i) : Rf (w.setCell ⟨r, 0, none⟩ v) B r v vr H' L := by
  refine ⟨?_, RowK.own_same O fun i e => Below.heap_setCell _ _ _ _ (fun e2 => n1 (by rw [e, e2])), RowK.own_same R.ol fun i e => Below.heap_setCell _ _ _ _ (fun e2 => R.nr (by rw [e, e2])), n1, R.nr, n2, R.hr⟩
  have := R.blk.set_ 0 v
  simpa using this
theorem Rf.setL (R : Rf w B r vh vr H L) (O : RN.own w B v H') (n1 : v.ownBlock ≠ some r) (n2 : ∀ i, vh.ownBlock = some i → v.ownBlock ≠ some i) : Rf (w.setCell ⟨r, 1, none⟩ v) B r vh v H H' := by
  refine ⟨?_, RowK.own_same R.oh fun i e => Below.heap_setCell _ _ _ _ (fun e2 => R.nh (by rw [e, e2])), RowK.own_same O fun i e => Below.heap_setCell _ _ _ _ (fun e2 => n1 (by rw [e, e2])), R.nh, n1, n2, R.hr⟩
  have := R.blk.set_ 1 v
  simpa using this
theorem Rf.shows (R : Rf w B r vh vr H L) : ∃ A c A' c', vh = .slice A H.length c ∧ vr = .slice A' L.length c' ∧ RN.shows w A H ∧ RN.shows w A' L := by
  obtain ⟨A, c, e1, h1, _⟩ := RowK.own_shows R.oh
  obtain ⟨A', c', e2, h2, _⟩ := RowK.own_shows R.ol
  exact ⟨A, c, A', c', e1, e2, h1, h2⟩
theorem Rmv.trans {w2 : World} {vh' vr' vh2 vr2 : Value} (m : Rmv w w' r vh vr vh' vr') (q : Rmv w' w2 r vh' vr' vh2 vr2) : Rmv w w2 r vh vr vh2 vr2 :=
  ⟨m.k.andThen q.k fun i hi h => (m.o i h).resolve_right (by omega), fun i h => (q.o i h).elim (fun h => m.o i h) fun h => .inr (Nat.le_trans m.k.size h)⟩
/-- The list of the handled ones grows by one. -/
theorem Rf.growH {w3 : World} {o : Obj} {u : Value} (R : Rf w B r vh vr H L) (hg : (w.alloc o).grownBy w3 vh.ownBlock) (O : RN.own w3 B u H') (ho : u.ownBlock = vh.ownBlock ∨ u.ownBlock = some (w.alloc o).heap.size) :
    Blk w3 r 27 #[vh, vr] ∧ Rf (w3.setCell ⟨r, 0, none⟩ u) B r u vr H' L ∧ Rmv w (w3.setCell ⟨r, 0, none⟩ u) r vh vr u vr := by
  have hb : Blk w3 r 27 #[vh, vr] := R.blk.same (RowK.grown_far hg R.blk.lt R.nh)
  have hl : RN.own w3 B vr L := RowK.own_same R.ol fun i e => RowK.grown_far hg (RowK.own_lt R.ol e).1 (fun e2 => R.ne i e2 e)
  have hu : ∀ i, u.ownBlock = some i → vh.ownBlock = some i ∨ w.heap.size ≤ i := fun i e => by
    rcases ho with h | h
    · exact .inl (h ▸ e)
    · rw [h] at e; simp at e; exact .inr (by omega)
  have n1 : u.ownBlock ≠ some r := fun e => by
    rcases hu r e with h | h
    · exact R.nh h
    · have := R.blk.lt; omega
  have n2 : ∀ i, u.ownBlock = some i → vr.ownBlock ≠ some i := fun i e e2 => by
    rcases hu i e with h | h
    · exact R.ne i h e2
    · have := (RowK.own_lt R.ol e2).1; omega
  refine ⟨hb, ⟨?_, RowK.own_same O fun i e => Below.heap_setCell _ _ _ _ (fun e2 => n1 (by rw [e, e2])), RowK.own_same hl fun i e => Below.heap_setCell _ _ _ _ (fun e2 => R.nr (by rw [e, e2])), n1, R.nr, n2, R.hr⟩, ⟨(((Kept.refl _ w).alloc o).grown hg (fun i e _ => .inr (.inl e))).setCell (p := ⟨r, 0, none⟩) (.inl rfl) _, fun i hi => ?_⟩⟩
  · have := hb.set_ 0 u
    simpa using this
  · rcases hi with h | h | h
    · exact .inl (.inl h)
    · rcases hu i h with h | h
      · exact .inl (.inr (.inl h))
      · exact .inr h
    · exact .inl (.inr (.inr h))
/-- The list of the raises grows by one. -/
theorem Rf.growL {w3 : World} {o : Obj} {u : Value} (R : Rf w B r vh vr H L) (hg : (w.alloc o).grownBy w3 vr.ownBlock) (O : RN.own w3 B u H') (ho : u.ownBlock = vr.ownBlock ∨ u.ownBlock = some (w.alloc o).heap.size) :
    Blk w3 r 27 #[vh, vr] ∧ Rf (w3.setCell ⟨r, 1, none⟩ u) B r vh u H H' ∧ Rmv w (w3.setCell ⟨r, 1, none⟩ u) r vh vr vh u := by
  have hb : Blk w3 r 27 #[vh, vr] := R.blk.same (RowK.grown_far hg R.blk.lt R.nr)
  have hl : RN.own w3 B vh H := RowK.own_same R.oh fun i e => RowK.grown_far hg (RowK.own_lt R.oh e).1 (R.ne i e)
  have hu : ∀ i, u.ownBlock = some i → vr.ownBlock = some i ∨ w.heap.size ≤ i := fun i e => by
    rcases ho with h | h
    · exact .inl (h ▸ e)
    · rw [h] at e; simp at e; exact .inr (by omega)
  have n1 : u.ownBlock ≠ some r := fun e => by
    rcases hu r e with h | h
    · exact R.nr h
    · have := R.blk.lt; omega
  have n2 : ∀ i, vh.ownBlock = some i → u.ownBlock ≠ some i := fun i e2 e => by
    rcases hu i e with h | h
    · exact R.ne i e2 h
    · have := (RowK.own_lt R.oh e2).1; omega
  refine ⟨hb, ⟨?_, RowK.own_same hl fun i e => Below.heap_setCell _ _ _ _ (fun e2 => R.nh (by rw [e, e2])), RowK.own_same O fun i e => Below.heap_setCell _ _ _ _ (fun e2 => n1 (by rw [e, e2])), R.nh, n1, n2, R.hr⟩, ⟨(((Kept.refl _ w).alloc o).grown hg (fun i e _ => .inr (.inr e))).setCell (p := ⟨r, 1, none⟩) (.inl rfl) _, fun i hi => ?_⟩⟩
  · have := hb.set_ 1 u
    simpa using this
  · rcases hi with h | h | h
    · exact .inl (.inl h)
    · exact .inl (.inr (.inl h))
    · rcases hu i h with h | h
      · exact .inl (.inr (.inr h))
      · exact .inr h
theorem Rmv.refl (w : World) (r : Nat) (vh vr : Value) : Rmv w w r vh vr vh vr := ⟨Kept.refl _ _, fun _ h => .inl h⟩
end

def RefA (w : World) (B r : Nat) (vh vr : Value) (H L : List Nat) (w' : World) : Prop := ∃ vh' vr', Rf w' B r vh' vr' H L ∧ Rmv w w' r vh vr vh' vr'

section
variable {w : World} {B r : Nat} {vh vr : Value} {H L : List Nat} {n : Int}
theorem rhandle_no (R : Rf w B r vh vr H L) (h : isSig n = false) (on : Bool) :
    Calls Try.prog 10 #[.pointer (some ⟨r, 0, none⟩), .int .i64 n, .bool on] w fun e w' => e = .returned (.int .i64 100) ∧ w = w' := by
  clear R
  rcases isSig_no.1 h with h1 | h1
  · clear h
    go_enter Try.func10, Try.ntmps10
    go_wp2_with fail
    go_ret
    exact ⟨rfl, rfl⟩
  · have h2 : 1 ≤ n := by omega
    clear h
    go_enter Try.func10, Try.ntmps10
    go_wp2_with fail
    go_ret
    exact ⟨rfl, rfl⟩
theorem rraise_no (R : Rf w B r vh vr H L) (h : isSig n = false) :
    Calls Try.prog 12 #[.pointer (some ⟨r, 0, none⟩), .int .i64 n] w fun e w' => e = .returned (.int .i64 100) ∧ w = w' := by
  clear R
  rcases isSig_no.1 h with h1 | h1
  · clear h
    go_enter Try.func12, Try.ntmps12
    go_wp2_with fail
    go_ret
    exact ⟨rfl, rfl⟩
  · have h2 : 1 ≤ n := by omega
    clear h
    go_enter Try.func12, Try.ntmps12
    go_wp2_with fail
    go_ret
    exact ⟨rfl, rfl⟩

/-- Behind the list without a signal. -/
theorem handle_mid {w w1 : World} {v : Value} {H' : List Nat} (R : Rf w B r vh vr H L) (hb : Below w.heap.size w w1) (O : RN.own w1 w.heap.size v H') :
    Rf (w1.setCell ⟨r, 0, none⟩ v) B r v vr H' L ∧ Rmv w (w1.setCell ⟨r, 0, none⟩ v) r vh vr v vr ∧ (∀ i, v.ownBlock = some i → w.heap.size ≤ i) := by
  have hlt := R.blk.lt
  have hw : ∀ i, v.ownBlock = some i → w.heap.size ≤ i := fun i e => (RowK.own_lt O e).2
  refine ⟨(R.below hb).setH (RowK.own_more O (by have := R.hr; omega)) (fun e => by have := hw _ e; omega) (fun i e e2 => by have := hw _ e; have := (R.lt (.inr (.inr e2))).1; omega), ⟨(Kept.of_below hb).setCell (p := ⟨r, 0, none⟩) (.inl rfl) _, fun i hi => ?_⟩, hw⟩
  rcases hi with h | h | h
  · exact .inl (.inl h)
  · exact .inr (hw i h)
  · exact .inl (.inr (.inr h))
theorem handle_mid2 {w w1 : World} {v : Value} {H' : List Nat} (R : Rf w B r vh vr H L) (hb : Below w.heap.size w w1) (O : RN.own w1 w.heap.size v H') :
    Rf (w1.setCell ⟨r, 1, none⟩ v) B r vh v H H' ∧ Rmv w (w1.setCell ⟨r, 1, none⟩ v) r vh vr vh v := by
  have hlt := R.blk.lt
  have hw : ∀ i, v.ownBlock = some i → w.heap.size ≤ i := fun i e => (RowK.own_lt O e).2
  refine ⟨(R.below hb).setL (RowK.own_more O (by have := R.hr; omega)) (fun e => by have := hw _ e; omega) (fun i e2 e => by have := hw _ e; have := (R.lt (.inr (.inl e2))).1; omega), ⟨(Kept.of_below hb).setCell (p := ⟨r, 1, none⟩) (.inl rfl) _, fun i hi => ?_⟩⟩
  rcases hi with h | h | h
  · exact .inl (.inl h)
  · exact .inl (.inr (.inl h))
  · exact .inr (hw i h)

set_option maxRecDepth 100000 in
set_option maxHeartbeats 2000000 in
theorem rhandle_on {i : Nat} (R : Rf w B r vh vr H L) (h1 : 1 ≤ i) (h2 : i ≤ 31) (hl : H.length ≤ 1000) :
    Calls Try.prog 10 #[.pointer (some ⟨r, 0, none⟩), .int .i64 (i : Int), .bool true] w fun e w' => e = .returned (.int .i64 0) ∧ RefA w B r vh vr (outI H i ++ [i]) L w' := by
  obtain ⟨Ah, ch, Ar, cr, rfl, rfl, s1, s2⟩ := R.shows
  have HW := Lib.hid (without_any (c := ch) s1 hl (i : Int))
  have HR := Lib.hid R
  obtain ⟨c0, -, lr, f0, -⟩ := R.cells
  have hb0 : (1 : Int) ≤ (i : Int) := by omega
  have hb1 : (i : Int) ≤ 31 := by omega
  have HL := Lib.hid hl
  clear R s1 s2 hl
  go_enter Try.func10, Try.ntmps10
  go_wp2_with fail
  refine HW.out.mono ?_
  rintro e w1 ⟨A1, k1, rfl, O, hb⟩
  obtain ⟨R2, m2, hw⟩ := handle_mid HR.out hb O
  obtain ⟨c0', -, lr', f0', -⟩ := (HR.out.below hb).cells
  have hsz := hb.size
  have hz : (w1.setCell ⟨r, 0, none⟩ (.slice A1 (outI H (i : Int)).length k1)).heap.size = w1.heap.size := by simp [World.setCell]
  have hsh := RowK.new_shows (R := RN) (w1.setCell ⟨r, 0, none⟩ (.slice A1 (outI H (i : Int)).length k1)) i 3
  rw [hz] at hsh
  have HM := Lib.hid (And.intro R2 (And.intro m2 (And.intro hsh hsz)))
  have HL2 := Lib.hid (Nat.le_trans (outI_len H (i : Int)) HL.out)
  have HB := Lib.hid (show B ≤ w1.heap.size by have := HR.out.hr; omega)
  clear R2 m2 hw hsz hz hsh O hb c0
  go_wp2_with (at_builtin; refine RowK.append (R := RN) rfl _ _ rfl B (.slice A1 (outI H (i : Int)).length k1) (outI H (i : Int)) [i] rfl (RowK.own_alloc HM.out.1.oh _) (some ⟨w1.heap.size, 0, none⟩) 1 1 rfl rfl HM.out.2.2.1 (fun e => by cases e) (by have := HL2.out; simp; omega) (by have := HB.out; simp [World.setCell]; omega) ?_; intro u1 w3 O1 hg1 ho1; obtain ⟨A2, n2, c2, hu1⟩ := RowK.own_slice O1; subst hu1; obtain ⟨b3, R3, m3⟩ := HM.out.1.growH hg1 O1 ho1; have d0 := b3.cell 0; have f3 := b3.frozen 0; have l3 := b3.lt; have HN := Lib.hid (And.intro R3 (HM.out.2.1.trans m3)); clear O1 hg1 ho1 b3 R3 m3)
  go_ret
  exact ⟨rfl, _, _, HN.out.1, HN.out.2⟩

set_option maxRecDepth 100000 in
set_option maxHeartbeats 2000000 in
theorem rhandle_off {i : Nat} (R : Rf w B r vh vr H L) (h1 : 1 ≤ i) (h2 : i ≤ 31) (hl : H.length ≤ 1000) (hl2 : L.length ≤ 1000) :
    Calls Try.prog 10 #[.pointer (some ⟨r, 0, none⟩), .int .i64 (i : Int), .bool false] w fun e w' => e = .returned (.int .i64 0) ∧ RefA w B r vh vr (outI H i) (outI L i) w' := by
  obtain ⟨Ah, ch, Ar, cr, rfl, rfl, s1, s2⟩ := R.shows
  have HW := Lib.hid (without_any (c := ch) s1 hl (i : Int))
  have HR := Lib.hid R
  obtain ⟨c0, -, lr, f0, -⟩ := R.cells
  have hb0 : (1 : Int) ≤ (i : Int) := by omega
  have hb1 : (i : Int) ≤ 31 := by omega
  have HL := Lib.hid hl2
  clear R s1 s2 hl hl2
  go_enter Try.func10, Try.ntmps10
  go_wp2_with fail
  refine HW.out.mono ?_
  rintro e w1 ⟨A1, k1, rfl, O, hb⟩
  obtain ⟨R2, m2, hw⟩ := handle_mid HR.out hb O
  obtain ⟨c0', c1', lr', f0', -⟩ := (HR.out.below hb).cells
  obtain ⟨w2, hw2⟩ : ∃ w2, w2 = w1.setCell ⟨r, 0, none⟩ (.slice A1 (outI H (i : Int)).length k1) := ⟨_, rfl⟩
  rw [← hw2] at R2 m2
  obtain ⟨A3, c3, A4, c4, e3, e4, -, s4⟩ := R2.shows
  injection e4 with e5 e6 e7
  subst e5; subst e7
  clear e3 e6
  have HW2 := Lib.hid (without_any (c := cr) s4 HL.out (i : Int))
  have HM := Lib.hid (And.intro R2 m2)
  have HE := Lib.hid hw2
  clear R2 m2 hw hw2 O hb c0 s4
  go_wp2_with fail
  rw [← HE.out]
  refine HW2.out.mono ?_
  rintro e w4 ⟨A5, k5, rfl, O5, hb5⟩
  obtain ⟨-, d1, l4, -, f1⟩ := (HM.out.1.below hb5).cells
  obtain ⟨R6, m6⟩ := handle_mid2 HM.out.1 hb5 O5
  have HN := Lib.hid (And.intro R6 (HM.out.2.trans m6))
  clear O5 hb5 R6 m6 c0' c1' lr' f0'
  go_wp2_with fail
  go_ret
  exact ⟨rfl, _, _, HN.out.1, HN.out.2⟩

set_option maxRecDepth 100000 in
set_option maxHeartbeats 2000000 in
theorem rraise_yes {i : Nat} (R : Rf w B r vh vr H L) (h1 : 1 ≤ i) (h2 : i ≤ 31) (hl : H.length ≤ 1000) (hl2 : L.length ≤ 1000) :
    Calls Try.prog 12 #[.pointer (some ⟨r, 0, none⟩), .int .i64 (i : Int)] w fun e w' => e = .returned (.int .i64 0) ∧ RefA w B r vh vr H (if 0 < cntI H i then L ++ [i] else L) w' := by
  obtain ⟨Ah, ch, Ar, cr, rfl, rfl, s1, s2⟩ := R.shows
  have HW := Lib.hid (rcount_any (c := ch) s1 hl (i : Int))
  have hcl := cntI_le H (i : Int)
  have HR := Lib.hid R
  obtain ⟨c0, c1, lr, f0, f1⟩ := R.cells
  have hb0 : (1 : Int) ≤ (i : Int) := by omega
  have hb1 : (i : Int) ≤ 31 := by omega
  have HL := Lib.hid hl2
  have hsh := RowK.new_shows (R := RN) w i 3
  have HB := Lib.hid (And.intro hsh (show B ≤ w.heap.size by have := R.hr; omega))
  obtain ⟨nc, hnc⟩ : ∃ nc, nc = cntI H (i : Int) := ⟨_, rfl⟩
  rw [← hnc] at HW ⊢
  clear R s1 s2 hl2 hsh hcl hnc
  by_cases h0 : 0 < nc
  · rw [if_pos h0]
    have h00 : (0 : Int) < (nc : Int) := by omega
    go_enter Try.func12, Try.ntmps12
    go_wp2_with fail
    refine HW.out.mono ?_
    rintro e w1 ⟨rfl, rfl⟩
    go_wp2_with (at_builtin; refine RowK.append (R := RN) rfl _ _ rfl B (.slice Ar L.length cr) L [i] rfl (RowK.own_alloc HR.out.ol _) (some ⟨w.heap.size, 0, none⟩) 1 1 rfl rfl HB.out.1 (fun e => by cases e) (by have := HL.out; simp; omega) (by have := HB.out.2; simp; omega) ?_; intro u1 w3 O1 hg1 ho1; obtain ⟨A2, n2, c2, hu1⟩ := RowK.own_slice O1; subst hu1; obtain ⟨b3, R3, m3⟩ := HR.out.growL hg1 O1 ho1; have d1 := b3.cell 1; have f3 := b3.frozen 1; have l3 := b3.lt; have HN := Lib.hid (And.intro R3 m3); clear O1 hg1 ho1 b3 R3 m3)
    go_ret
    exact ⟨rfl, _, _, HN.out.1, HN.out.2⟩
  · rw [if_neg h0]
    have h00 : ¬ (0 : Int) < (nc : Int) := by omega
    obtain rfl : nc = 0 := by omega
    clear h0 h00
    go_enter Try.func12, Try.ntmps12
    go_wp2_with fail
    refine HW.out.mono ?_
    rintro e w1 ⟨rfl, rfl⟩
    go_wp2_with fail
    go_ret
    exact ⟨rfl, _, _, HR.out, Rmv.refl _ _ _ _⟩
end
end Go.Proofs.Ytiancgjpjfejdaa
