/-
  A set in memory, and the calls that tell of it; Cut.
-/
import Derived.Test.YtncdohbdmpfefaaCoSort
namespace Go.Proofs.Ytncdohbdmpfefaa
open Go.RowKit Go.Maps Go.ChangeMaps

/-- The set at block s; Own: all its blocks. -/
def Cm (w : World) (B s : Nat) (Own : Nat → Prop) (L : List En) (T : List Int) (nx : Int) : Prop :=
  ∃ k mp hp qv F G bo qb q m v S, Blk w s 59 #[.pointer (some ⟨k, 0, none⟩)] ∧ Cj w B k mp hp qv F G bo qb q m v S L T nx nx ∧ S.Perm (xs (heads L T)) ∧
    (∀ i, Own i ↔ i = s ∨ Fo k mp hp qv bo qb q m v L T i) ∧ B ≤ s

/-- The set's own block is none of what it keeps. -/
theorem fo_not {w : World} {B s k mp hp : Nat} {qv : Value} {F G : Nd → Nd} {bo qb : Int → Nat} {q m : Nat} {v : Value} {S : List It} {L : List En} {T : List Int} {nx ad : Int} {cs : Array Value} (hb : Blk w s 59 cs) (h : Cj w B k mp hp qv F G bo qb q m v S L T nx ad) : ¬ Fo k mp hp qv bo qb q m v L T s := by
  rintro ((e | e | ⟨t, ht, e⟩ | ⟨a, ha, e⟩) | e | e | e | e | e)
  · exact blk_ne hb h.kr.kb (by decide) e
  · rcases h.kr.row.2 with ⟨e2, _⟩ | ⟨g, cap, cur, e2, _, hg, _⟩
    · rw [e2] at e; cases e
    · rw [e2] at e
      exact blk_ne (show Blk w g 71 cur from hg) hb (by decide) (Option.some.inj e)
  · exact blk_ne (h.kr.qs t ht) hb (by decide) e
  · exact blk_ne (h.kr.pl a ha) hb (by decide) e
  · exact h.pm.ne hb e
  · exact blk_ne hb h.hh.hb (by decide) e
  · obtain ⟨P, ⟨f, hQ, _⟩, _⟩ := h.hh.que
    exact blk_ne hb hQ.blk (by decide) e
  · obtain ⟨P, ⟨f, hQ, _⟩, _⟩ := h.hh.que
    obtain ⟨D, ⟨es, clock, hm, _⟩, _⟩ := hQ.pm
    subst e
    unfold Blk at hb
    rw [hm] at hb; cases hb
  · obtain ⟨P, ⟨f, hQ, _⟩, _⟩ := h.hh.que
    rcases hQ.row.2 with ⟨e2, _⟩ | ⟨g, cap, cur, e2, _, hg, _⟩
    · rw [e2] at e; cases e
    · rw [e2] at e
      exact blk_ne (show Blk w g 44 cur from hg) hb (by decide) (Option.some.inj e)

section
variable {w w' : World} {B B' s : Nat} {Own Own' : Nat → Prop} {L : List En} {T : List Int} {nx : Int}
theorem Cm.lt (H : Cm w B s Own L T nx) {i : Nat} (hi : Own i) : i < w.heap.size ∧ B ≤ i := by
  obtain ⟨k, mp, hp, qv, F, G, bo, qb, q, m, v, S, hb, hc, _, ho, hB⟩ := H
  rcases (ho i).1 hi with rfl | e
  · exact ⟨hb.lt, hB⟩
  · exact hc.lt e
theorem Cm.base (H : Cm w B s Own L T nx) : B ≤ w.heap.size := by
  obtain ⟨k, mp, hp, qv, F, G, bo, qb, q, m, v, S, hb, hc, _, ho, hB⟩ := H
  exact hc.hh.base
theorem Cm.own (H : Cm w B s Own L T nx) : Own s := by
  obtain ⟨k, mp, hp, qv, F, G, bo, qb, q, m, v, S, hb, hc, _, ho, hB⟩ := H
  exact (ho s).2 (.inl rfl)
theorem Cm.inv (H : Cm w B s Own L T nx) : CInv L T nx := by
  obtain ⟨k, mp, hp, qv, F, G, bo, qb, q, m, v, S, hb, hc, _, ho, hB⟩ := H
  exact hc.kr.inv
theorem Cm.same (H : Cm w B s Own L T nx) (e : ∀ i, Own i → w'.heap[i]? = w.heap[i]?) (hs : B ≤ w'.heap.size) : Cm w' B s Own L T nx := by
  obtain ⟨k, mp, hp, qv, F, G, bo, qb, q, m, v, S, hb, hc, hS, ho, hB⟩ := H
  exact ⟨k, mp, hp, qv, F, G, bo, qb, q, m, v, S, hb.same (e s ((ho s).2 (.inl rfl))), hc.same (fun i hi => e i ((ho i).2 (.inr hi))) hs, hS, ho, hB⟩
theorem Cm.kept {J : Nat → Prop} (H : Cm w B s Own L T nx) (k : Kept J w w') (hf : ∀ i, Own i → ¬ J i) : Cm w' B s Own L T nx :=
  H.same (fun i hi => k.block i (H.lt hi).1 (hf i hi)) (Nat.le_trans H.base k.size)
theorem Cm.alloc (H : Cm w B s Own L T nx) (o : Obj) : Cm (w.alloc o) B s Own L T nx := H.kept ((Kept.refl (fun _ => False) w).alloc o) (fun _ _ e => e)
theorem Cm.drewN (H : Cm w B s Own L T nx) (n : Nat) : Cm (w.drewN n) B s Own L T nx := H.kept ((Kept.refl (fun _ => False) w).drewN n) (fun _ _ e => e)
theorem Cm.drew (H : Cm w B s Own L T nx) : Cm w.drew B s Own L T nx := H.kept ((Kept.refl (fun _ => False) w).drew) (fun _ _ e => e)
theorem Cm.below (H : Cm w B s Own L T nx) (hb : Below w.heap.size w w') : Cm w' B s Own L T nx := H.kept (Kept.of_below (F := fun _ => False) hb) (fun _ _ e => e)
theorem Cj.more {k mp hp : Nat} {qv : Value} {F G : Nd → Nd} {bo qb : Int → Nat} {q m : Nat} {v : Value} {S : List It} {ad : Int} (h : Cj w B k mp hp qv F G bo qb q m v S L T nx ad) (hB : B' ≤ B) : Cj w B' k mp hp qv F G bo qb q m v S L T nx ad := by
  refine ⟨h.kr, h.pm, ⟨h.hh.hb, Nat.le_trans hB h.hh.hB, ?_, h.hh.srt⟩, h.a1, fun i hi => Nat.le_trans hB (h.lo i hi)⟩
  obtain ⟨P, ⟨f, hQ, r⟩, hp⟩ := h.hh.que
  refine ⟨P, ⟨f, ⟨hQ.blk, ?_, hQ.pm, Nat.le_trans hB hQ.hq, Nat.le_trans hB hQ.hm, Nat.le_trans hB hQ.hB, hQ.ok, hQ.len⟩, r⟩, hp⟩
  refine ⟨hQ.row.1, ?_⟩
  rcases hQ.row.2 with h2 | ⟨g, cap, cur, e, hg, r⟩
  · exact .inl h2
  · exact .inr ⟨g, cap, cur, e, Nat.le_trans hB hg, r⟩
theorem Cm.more (H : Cm w B s Own L T nx) (hB : B' ≤ B) : Cm w B' s Own L T nx := by
  obtain ⟨k, mp, hp, qv, F, G, bo, qb, q, m, v, S, hb, hc, hS, ho, hB0⟩ := H
  exact ⟨k, mp, hp, qv, F, G, bo, qb, q, m, v, S, hb, hc.more hB, hS, ho, Nat.le_trans hB hB0⟩
theorem Mv.below {F F' : Nat → Prop} {B0 : Nat} (h : Mv w w' F F') (hF : ∀ k, F k → B0 ≤ k) (hB : B0 ≤ w.heap.size) : Below B0 w w' := h.k.below hF hB
/-- What another one keeps while this one is turned. -/
theorem Cm.beside {s2 : Nat} {Own2 : Nat → Prop} {L2 : List En} {T2 : List Int} {n2 : Int} {B2 : Nat} (H2 : Cm w B2 s2 Own2 L2 T2 n2) (hm : Mv w w' Own Own') (ha : ∀ i, Own2 i → ¬ Own i) : Cm w' B2 s2 Own2 L2 T2 n2 ∧ ∀ i, Own2 i → ¬ Own' i :=
  ⟨H2.kept hm.k ha, fun i hi e => by
    rcases hm.o i e with e | e
    · exact ha i hi e
    · have := (H2.lt hi).1; omega⟩
end

theorem cmade_nil (w : World) : Calls Try.prog 29 #[.pointer none] w fun e w' => e = .returned (.bool false) ∧ w = w' := by
  go_enter Try.func29, Try.ntmps29
  go_wp2
  go_ret
  exact ⟨rfl, rfl⟩
theorem cmade_yes (w : World) (s k : Nat) (c0 : w.cell? ⟨s, 0, none⟩ = some (.pointer (some ⟨k, 0, none⟩))) : Calls Try.prog 29 #[.pointer (some ⟨s, 0, none⟩)] w fun e w' => e = .returned (.bool true) ∧ w = w' := by
  go_enter Try.func29, Try.ntmps29
  go_wp2
  go_ret
  exact ⟨rfl, rfl⟩

/-- The item of a number. -/
def getI (L : List En) (k : Int) : It := match L.find? (fun e => e.x.id == k) with | none => ⟨0, 0, 0⟩ | some e => e.x
theorem getI_yes {L : List En} {k : Int} (hn : (L.map fun e => e.x.id).Nodup) {e : En} (he : e ∈ L) (hk : e.x.id = k) : getI L k = e.x := by
  unfold getI
  cases h : L.find? (fun e => e.x.id == k) with
  | none => have := List.find?_eq_none.1 h e he; simp at this; exact absurd hk this
  | some a =>
    have h1 := List.find?_some h
    have h2 := List.mem_of_find?_eq_some h
    simp only [beq_iff_eq] at h1
    show a.x = e.x
    rw [en_inj hn h2 he (by rw [h1, hk])]
theorem getI_no {L : List En} {k : Int} (h : hasI L k = false) : getI L k = ⟨0, 0, 0⟩ := by
  unfold getI
  cases h1 : L.find? (fun e => e.x.id == k) with
  | none => rfl
  | some a =>
    have h2 := List.find?_some h1
    have h3 := List.mem_of_find?_eq_some h1
    simp only [beq_iff_eq] at h2
    exact absurd h2 (hasI_false.1 h a h3)
def aggI (x : It) : Value := .agg #[.int .i64 x.id, .int .u64 x.d, .int .u64 x.n]
/-- The first one of some, if there is one. -/
def topI (l : List It) : It × Bool := match l with | [] => (⟨0, 0, 0⟩, false) | x :: _ => (x, true)
theorem OwnI.more {W : World} {B B' : Nat} {v : Value} {P : List It} (h : OwnI W B v P) (hB : B' ≤ B) : OwnI W B' v P := by
  refine ⟨h.1, ?_⟩
  rcases h.2 with h2 | ⟨g, cap, cur, e, hg, r⟩
  · exact .inl h2
  · exact .inr ⟨g, cap, cur, e, Nat.le_trans hB hg, r⟩
def Told (w : World) (v : Value) (e : Ending) (w' : World) : Prop := e = .returned v ∧ Below w.heap.size w w'

section
variable {w : World} {B s : Nat} {Own : Nat → Prop} {L : List En} {T : List Int} {nx : Int}
theorem clen_any (H : Cm w B s Own L T nx) : Calls Try.prog 22 #[.pointer (some ⟨s, 0, none⟩)] w fun e w' => e = .returned (.int .i64 (L.length : Int)) ∧ w = w' := by
  obtain ⟨k, mp, hp, qv, F, G, bo, qb, q, m, v, S, hb, hc, hS, ho, hB⟩ := H
  have c0 := hb.cell 0
  have d2 := hc.kr.kb.cell 2
  simp at c0 d2
  have ls := hb.lt
  have lk := hc.kr.kb.lt
  have hM := Lib.hid (cmade_yes w s k c0)
  have hl := fun ty => hc.pm.len ty
  clear hb hc hS ho hB
  go_enter Try.func22, Try.ntmps22
  go_wp2_with (go_at_call 29; refine hM.out.mono ?_; rintro e w' ⟨rfl, rfl⟩)
  go_ret
  exact ⟨rfl, rfl⟩
theorem cheap_any (H : Cm w B s Own L T nx) : Calls Try.prog 24 #[.pointer (some ⟨s, 0, none⟩)] w fun e w' => e = .returned (.int .i64 ((heads L T).length : Int)) ∧ w = w' := by
  obtain ⟨k, mp, hp, qv, F, G, bo, qb, q, m, v, S, hb, hc, hS, ho, hB⟩ := H
  have c0 := hb.cell 0
  have d2 := hc.kr.kb.cell 0
  simp at c0 d2
  have ls := hb.lt
  have lk := hc.kr.kb.lt
  have hM := Lib.hid (cmade_yes w s k c0)
  have hl := len_any hc.hh
  rw [show S.length = (heads L T).length by rw [hS.length_eq]; unfold xs; rw [List.length_map]] at hl
  have HL := Lib.hid hl
  clear hb hc hS ho hB hl
  go_enter Try.func24, Try.ntmps24
  go_wp2_with (first
    | (go_at_call 29; refine hM.out.mono ?_; rintro e w' ⟨rfl, rfl⟩)
    | (go_at_call 41; refine HL.out.mono ?_; rintro e w' ⟨rfl, rfl⟩))
  go_ret
  exact ⟨rfl, rfl⟩
theorem call_any (H : Cm w B s Own L T nx) : Calls Try.prog 23 #[.pointer (some ⟨s, 0, none⟩)] w (Listed w (ord (xs L))) := by
  obtain ⟨k, mp, hp, qv, F, G, bo, qb, q, m, v, S, hb, hc, hS, ho, hB⟩ := H
  have c0 := hb.cell 0
  simp at c0
  have ls := hb.lt
  have hM := Lib.hid (cmade_yes w s k c0)
  have k1 : Kept (fun _ => False) w (w.alloc (.cells #[.pointer (some ⟨k, 0, none⟩)] 56)) := (Kept.refl _ w).alloc _
  have HL := Lib.hid (sortedFunc_any (hc.kept k1 (fun _ _ e => e)) w.heap.size (World.alloc_heap_new w _))
  clear hb hc hS ho hB k1
  go_enter Try.func23, Try.ntmps23
  go_wp2_with (first
    | (go_at_call 29; refine hM.out.mono ?_; rintro e w' ⟨rfl, rfl⟩)
    | (go_at_call 39; refine (items_call _ k).mono ?_; rintro e w' ⟨rfl, rfl⟩))
  refine HL.out.mono ?_
  rintro e w1 ⟨u, rfl, h1, h2⟩
  have HE := Lib.hid (show OwnI w1 w.heap.size u (ord (xs L)) ∧ Below w.heap.size w w1 from
    ⟨OwnI.more h1 (by simp), ((Below.refl _ w).alloc (Nat.le_refl _) _).trans (h2.mono (by simp))⟩)
  clear h1 h2
  go_wp2_with fail
  go_ret
  exact ⟨u, rfl, HE.out⟩

set_option maxHeartbeats 1000000 in
set_option maxRecDepth 100000 in
theorem ctop_any (H : Cm w B s Own L T nx) : Calls Try.prog 21 #[.pointer (some ⟨s, 0, none⟩)] w (Told w (.tuple #[aggI (topI (ord (xs L))).1, .bool (topI (ord (xs L))).2])) := by
  obtain ⟨k, mp, hp, qv, F, G, bo, qb, q, m, v, S, hb, hc, hS, ho, hB⟩ := H
  have ls := hb.lt
  have lk := hc.kr.kb.lt
  obtain ⟨R, hR⟩ : ∃ R, R = w.alloc (.cells #[.int .i64 0, .int .u64 0, .int .u64 0] 44) := ⟨_, rfl⟩
  have kR : Kept (fun _ => False) w R := by rw [hR]; exact (Kept.refl _ w).alloc _
  have bR : Blk R w.heap.size 44 #[.int .i64 0, .int .u64 0, .int .u64 0] := by rw [hR]; exact Blk.new _ _ _
  have hbR := hb.kept kR (fun e => e)
  have hcR := hc.kept kR (fun _ _ e => e)
  have hT : Calls Try.prog 37 #[.pointer (some ⟨hp, 0, none⟩)] R (Told R (.tuple #[aggI (topI (ord (xs L))).1, .bool (topI (ord (xs L))).2])) := by
    rcases top_first hc.kr.inv hc.hh.srt hS with ⟨e1, e2⟩ | ⟨x, S', S'', e1, e2⟩
    · subst e1
      rw [e2]
      exact top_none hcR.hh
    · subst e1
      rw [e2]
      exact top_some hcR.hh
  have c0 := hbR.cell 0
  have d0 := hcR.kr.kb.cell 0
  simp at c0 d0
  have lsR := hbR.lt
  have lkR := hcR.kr.kb.lt
  have hM := Lib.hid (cmade_yes R s k c0)
  have HT := Lib.hid hT
  have HR := Lib.hid (And.intro hR (And.intro kR bR))
  obtain ⟨x, hx⟩ : ∃ x, x = (topI (ord (xs L))).1 := ⟨_, rfl⟩
  obtain ⟨b, hb2⟩ : ∃ b, b = (topI (ord (xs L))).2 := ⟨_, rfl⟩
  rw [← hx, ← hb2] at HT ⊢
  clear hb hc hS ho hB hR kR bR hbR hcR hT hx hb2 ls lk
  go_enter Try.func21, Try.ntmps21
  go_wp2_with fail
  rw [← HR.out.1]
  refine hM.out.mono ?_
  rintro e w' ⟨rfl, rfl⟩
  go_wp2_with fail
  refine HT.out.mono ?_
  rintro e w2 ⟨rfl, hb2⟩
  have b2 := HR.out.2.2.same (hb2.block _ HR.out.2.2.lt)
  have z0 := b2.cell 0
  have z1 := b2.cell 1
  have z2 := b2.cell 2
  have zf := b2.frozen
  have zl := b2.lt
  simp at z0 z1 z2
  have HE := Lib.hid (show Below w.heap.size w (set3 w2 w.heap.size (.int .i64 x.id) (.int .u64 x.d) (.int .u64 x.n)) from by
    have h1 : Kept (fun _ => False) w w2 := HR.out.2.1.trans (Kept.of_below hb2)
    exact (((h1.setCell_new (p := ⟨w.heap.size, 0, none⟩) (Nat.le_refl _) _).setCell_new (p := ⟨w.heap.size, 1, none⟩) (Nat.le_refl _) _).setCell_new (p := ⟨w.heap.size, 2, none⟩) (Nat.le_refl _) _).below (fun _ e => e.elim) (Nat.le_refl _))
  clear b2 hb2
  unfold aggI
  go_wp2_with fail
  refine bodyPost_ret (v := .tuple #[.agg #[.int .i64 x.id, .int .u64 x.d, .int .u64 x.n], .bool b]) ?_ rfl ⟨rfl, HE.out⟩
  simp [results, Try.results21, go_sem, zl, z0, z1, z2]
theorem cfind_any (H : Cm w B s Own L T nx) {j : Int} (hj : -9223372036854775808 ≤ j ∧ j ≤ 9223372036854775807) : Calls Try.prog 20 #[.pointer (some ⟨s, 0, none⟩), .int .i64 j] w (Told w (.tuple #[aggI (getI L j), .bool (hasI L j)])) := by
  obtain ⟨k, mp, hp, qv, F, G, bo, qb, q, m, v, S, hb, hc, hS, ho, hB⟩ := H
  obtain ⟨R, hR⟩ : ∃ R, R = w.alloc (.cells #[.int .i64 0, .int .u64 0, .int .u64 0] 44) := ⟨_, rfl⟩
  have kR : Kept (fun _ => False) w R := by rw [hR]; exact (Kept.refl _ w).alloc _
  have bR : Blk R w.heap.size 44 #[.int .i64 0, .int .u64 0, .int .u64 0] := by rw [hR]; exact Blk.new _ _ _
  have hbR := hb.kept kR (fun e => e)
  have hcR := hc.kept kR (fun _ _ e => e)
  have c0 := hbR.cell 0
  have d2 := hcR.kr.kb.cell 2
  simp at c0 d2
  have lsR := hbR.lt
  have lkR := hcR.kr.kb.lt
  have hM := Lib.hid (cmade_yes R s k c0)
  have hlk := hcR.pm.look hj
  have z0 := bR.cell 0
  have z1 := bR.cell 1
  have z2 := bR.cell 2
  have zf := bR.frozen
  have zl := bR.lt
  simp at z0 z1 z2
  have HR := Lib.hid (And.intro hR kR)
  have HE := Lib.hid (fun (x : It) => show Below w.heap.size w (set3 R w.heap.size (.int .i64 x.id) (.int .u64 x.d) (.int .u64 x.n)) from
    (((kR.setCell_new (p := ⟨w.heap.size, 0, none⟩) (Nat.le_refl _) _).setCell_new (p := ⟨w.heap.size, 1, none⟩) (Nat.le_refl _) _).setCell_new (p := ⟨w.heap.size, 2, none⟩) (Nat.le_refl _) _).below (fun _ e => e.elim) (Nat.le_refl _))
  cases hh : hasI L j with
  | false =>
    rw [getI_no hh]
    rw [plc_none hh] at hlk
    clear hb hc hS ho hB hR kR bR hbR hcR hh
    unfold ptrO at hlk
    simp at hlk
    go_enter Try.func20, Try.ntmps20
    go_wp2_with fail
    rw [← HR.out.1]
    refine hM.out.mono ?_
    rintro e w' ⟨rfl, rfl⟩
    go_wp2_with fail
    refine bodyPost_ret (v := .tuple #[.agg #[.int .i64 0, .int .u64 0, .int .u64 0], .bool false]) ?_ rfl ⟨rfl, HE.out ⟨0, 0, 0⟩⟩
    simp [results, Try.results20, go_sem, zl, z0, z1, z2]
  | true =>
    obtain ⟨e, he, rfl⟩ := hasI_true.1 hh
    rw [getI_yes hc.kr.inv.ids he rfl]
    rw [plc_some hh] at hlk
    have x0 := (hcR.kr.pl e he).cell 0
    have x1 := (hcR.kr.pl e he).cell 1
    have x2 := (hcR.kr.pl e he).cell 2
    unfold encPl at x0 x1 x2
    simp at x0 x1 x2
    have lx := (hcR.kr.pl e he).lt
    have hne : bo e.x.id ≠ w.heap.size := by have := (hc.kr.pl e he).lt; omega
    clear hb hc hS ho hB hR kR bR hbR hcR hh he
    unfold ptrO at hlk
    simp at hlk
    generalize bo e.x.id = pb at *
    obtain ⟨⟨i, d, n⟩, _⟩ := e
    go_enter Try.func20, Try.ntmps20
    go_wp2_with fail
    rw [← HR.out.1]
    refine hM.out.mono ?_
    rintro e w' ⟨rfl, rfl⟩
    go_wp2_with fail
    refine bodyPost_ret (v := .tuple #[.agg #[.int .i64 i, .int .u64 d, .int .u64 n], .bool true]) ?_ rfl ⟨rfl, HE.out ⟨i, d, n⟩⟩
    simp [results, Try.results20, go_sem, zl, z0, z1, z2]

/-- Cut. -/
theorem ccut_any (H : Cm w B s Own L T nx) {j : Int} (hj : -9223372036854775808 ≤ j ∧ j ≤ 9223372036854775807) : Calls Try.prog 12 #[.pointer (some ⟨s, 0, none⟩), .int .i64 j] w fun e w' =>
    e = .returned (.bool (hasI L j)) ∧ ∃ Own', Cm w' B s Own' (cutL j L) T nx ∧ Mv w w' Own Own' := by
  obtain ⟨k, mp, hp, qv, F, G, bo, qb, q, m, v, S, hb, hc, hS, ho, hB⟩ := H
  have c0 := hb.cell 0
  have d2 := hc.kr.kb.cell 2
  simp at c0 d2
  have ls := hb.lt
  have lk := hc.kr.kb.lt
  have hM := Lib.hid (cmade_yes w s k c0)
  have hlk := hc.pm.look hj
  cases hh : hasI L j with
  | false =>
    rw [plc_none hh] at hlk
    have HE := Lib.hid (show ∃ Own', Cm w B s Own' (cutL j L) T nx ∧ Mv w w Own Own' from ⟨Own, by rw [cutL_none hh]; exact ⟨k, mp, hp, qv, F, G, bo, qb, q, m, v, S, hb, hc, hS, ho, hB⟩, Mv.of_kept (Kept.refl _ _)⟩)
    clear hb hc hS ho hB hh
    unfold ptrO at hlk
    simp at hlk
    go_enter Try.func12, Try.ntmps12
    go_wp2_with (go_at_call 29; refine hM.out.mono ?_; rintro e w' ⟨rfl, rfl⟩)
    go_ret
    exact ⟨rfl, HE.out⟩
  | true =>
    obtain ⟨e, he, rfl⟩ := hasI_true.1 hh
    rw [plc_some hh] at hlk
    obtain ⟨M, N, rfl⟩ := List.append_of_mem he
    have hf : ∃ f : Bool, if f then e.x ∈ S else ∀ y ∈ S, y.id ≠ e.x.id := by
      by_cases h1 : e.x ∈ S
      · exact ⟨true, h1⟩
      · refine ⟨false, fun y hy e2 => h1 ?_⟩
        obtain ⟨a, ha, rfl⟩ := List.mem_map.1 (hS.mem_iff.1 hy)
        have := en_inj hc.kr.inv.ids (heads_sub ha) he e2
        rw [← this]; exact hy
    obtain ⟨f, hf⟩ := hf
    have HK := Lib.hid (krem_any hc hS hf)
    have HB := Lib.hid (And.intro hb (And.intro (fo_not hb hc) (And.intro ho (And.intro hB (cutL_split hc.kr.inv.ids)))))
    clear hb hc hS ho hB hh he hf
    unfold ptrO at hlk
    simp at hlk
    go_enter Try.func12, Try.ntmps12
    go_wp2_with (go_at_call 29; refine hM.out.mono ?_; rintro e w' ⟨rfl, rfl⟩)
    refine HK.out.mono ?_
    rintro en w1 ⟨rfl, F', G', v', S', hc1, hS1, hm1⟩
    have HE := Lib.hid (show ∃ Own', Cm w1 B s Own' (cutL e.x.id (M ++ e :: N)) T nx ∧ Mv w w1 Own Own' from by
      obtain ⟨hb, hn, ho, hB, hcut⟩ := HB.out
      rw [hcut]
      refine ⟨fun i => i = s ∨ Fo k mp hp qv bo qb q m v' (M ++ N) T i, ⟨k, mp, hp, qv, F', G', bo, qb, q, m, v', S', hb.kept hm1.k hn, hc1, hS1, fun i => Iff.rfl, hB⟩, hm1.k.mono (fun i _ e => (ho i).2 (.inr e)), fun i hi => ?_⟩
      rcases hi with rfl | hi
      · exact .inl ((ho i).2 (.inl rfl))
      · rcases hm1.o i hi with e | e
        · exact .inl ((ho i).2 (.inr e))
        · exact .inr e)
    clear hc1 hS1 hm1
    go_wp2_with fail
    go_ret
    exact ⟨rfl, HE.out⟩
end
end Go.Proofs.Ytncdohbdmpfefaa
