/-
  kept.add: an item comes, to its queue or apart.
-/
import Derived.Test.YtncdohbdmpfefaaCoKr
namespace Go.Proofs.Ytncdohbdmpfefaa
open Go.RowKit Go.Maps Go.ChangeMaps

/-- What a call turned: its blocks alone; those that it has behind the call it had, or they are new. -/
structure Mv (w w' : World) (F F' : Nat → Prop) : Prop where
  k : Kept F w w'
  o : ∀ i, F' i → F i ∨ w.heap.size ≤ i
section
variable {w w' w'' : World} {F F' F'' : Nat → Prop}
theorem Mv.trans (h : Mv w w' F F') (k : Mv w' w'' F' F'') : Mv w w'' F F'' :=
  ⟨h.k.andThen k.k (fun i hi e => by rcases h.o i e with h | h; exact h; omega), fun i e => by
    rcases k.o i e with e | e
    · exact h.o i e
    · exact .inr (Nat.le_trans h.k.size e)⟩
theorem Mv.of_kept (h : Kept (fun _ => False) w w') : Mv w w' F F := ⟨h.mono fun _ _ e => e.elim, fun _ e => .inl e⟩
theorem Mv.of_below (h : Below w.heap.size w w') : Mv w w' F F := Mv.of_kept (Kept.of_below h)
theorem Mv.mono {G : Nat → Prop} (h : Mv w w' F F') (hg : ∀ i, G i → F' i) : Mv w w' F G := ⟨h.k, fun i e => h.o i (hg i e)⟩
theorem Mv.drewN (h : Mv w w' F F') (n : Nat) : Mv w (w'.drewN n) F F' := ⟨h.k.drewN n, h.o⟩
end

/-- All blocks of what a set keeps. -/
def Fo (k mp hp : Nat) (qv : Value) (bo qb : Int → Nat) (q m : Nat) (v : Value) (L : List En) (T : List Int) (i : Nat) : Prop := Fr k qv bo qb L T i ∨ i = mp ∨ i = hp ∨ Fp q m v i
/-- What a set keeps; which items stand in the heap is not said. -/
structure Cj (w : World) (B k mp hp : Nat) (qv : Value) (F G : Nd → Nd) (bo qb : Int → Nat) (q m : Nat) (v : Value) (S : List It) (L : List En) (T : List Int) (nx ad : Int) : Prop where
  kr : Kr w k mp hp qv F G bo qb L T nx ad
  pm : Pq w mp L.length (placeF bo L)
  hh : Hp w B hp q m v S
  a1 : ∀ i, i = hp ∨ Fp q m v i → ¬ Fr k qv bo qb L T i ∧ i ≠ mp
  lo : ∀ i, Fr k qv bo qb L T i ∨ i = mp → B ≤ i

theorem fp_new {w w' : World} {q m i : Nat} {v v' : Value} (hm : Moved w w' q m v v') (h : Fp q m v' i) : Fp q m v i ∨ w.heap.size ≤ i := by
  rcases h with h | h | h
  · exact .inl (.inl h)
  · exact .inl (.inr (.inl h))
  · rcases hm.2 with e | ⟨g, e, hg⟩
    · exact .inl (.inr (.inr (e ▸ h)))
    · rw [e] at h; cases h; exact .inr hg

section
variable {w w' : World} {B k mp hp : Nat} {qv : Value} {F G : Nd → Nd} {bo qb : Int → Nat} {q m : Nat} {v v' : Value} {S S' : List It} {L M N : List En} {T : List Int} {nx ad n2 : Int} {e : En} {t : Int} {x : It} {b : Nat}
theorem Cj.mp_not (h : Cj w B k mp hp qv F G bo qb q m v S L T nx ad) : ¬ Fr k qv bo qb L T mp := by
  rintro (e | e | ⟨t, ht, e⟩ | ⟨a, ha, e⟩)
  · exact h.pm.ne h.kr.kb e.symm
  · rcases h.kr.row.2 with ⟨e2, _⟩ | ⟨g, cap, cur, rfl, _, hg, _⟩
    · rw [e2] at e; cases e
    · have e1 : g = mp := Option.some.inj e
      subst e1
      exact h.pm.nomap hg
  · exact h.pm.ne (h.kr.qs t ht) e
  · exact h.pm.ne (h.kr.pl a ha) e
theorem Cj.lt (h : Cj w B k mp hp qv F G bo qb q m v S L T nx ad) {i : Nat} (hi : Fo k mp hp qv bo qb q m v L T i) : i < w.heap.size ∧ B ≤ i := by
  rcases hi with hi | rfl | hi
  · exact ⟨h.kr.lt hi, h.lo i (.inl hi)⟩
  · exact ⟨h.pm.lt, h.lo _ (.inr rfl)⟩
  · exact h.hh.lt hi
theorem Cj.same (h : Cj w B k mp hp qv F G bo qb q m v S L T nx ad) (e : ∀ i, Fo k mp hp qv bo qb q m v L T i → w'.heap[i]? = w.heap[i]?) (hs : B ≤ w'.heap.size) : Cj w' B k mp hp qv F G bo qb q m v S L T nx ad :=
  ⟨h.kr.same fun i hi => e i (.inl hi), h.pm.same (e mp (.inr (.inl rfl))), h.hh.same (fun i hi => e i (.inr (.inr hi))) hs, h.a1, h.lo⟩
theorem Cj.kept {J : Nat → Prop} (h : Cj w B k mp hp qv F G bo qb q m v S L T nx ad) (j : Kept J w w') (hj : ∀ i, Fo k mp hp qv bo qb q m v L T i → ¬ J i) : Cj w' B k mp hp qv F G bo qb q m v S L T nx ad :=
  h.same (fun i hi => j.block i (h.lt hi).1 (hj i hi)) (Nat.le_trans h.hh.base j.size)
theorem Cj.below (h : Cj w B k mp hp qv F G bo qb q m v S L T nx ad) (hb : Below w.heap.size w w') : Cj w' B k mp hp qv F G bo qb q m v S L T nx ad := h.kept (Kept.of_below (F := fun _ => False) hb) fun _ _ e => e
theorem Cj.drewN (h : Cj w B k mp hp qv F G bo qb q m v S L T nx ad) (n : Nat) : Cj (w.drewN n) B k mp hp qv F G bo qb q m v S L T nx ad := h.kept ((Kept.refl (fun _ => False) w).drewN n) fun _ _ e => e
theorem Cj.drew (h : Cj w B k mp hp qv F G bo qb q m v S L T nx ad) : Cj w.drew B k mp hp qv F G bo qb q m v S L T nx ad := h.kept ((Kept.refl (fun _ => False) w).drew) fun _ _ e => e
/-- The heap moved. -/
theorem Cj.moved (h : Cj w B k mp hp qv F G bo qb q m v S L T nx ad) (hm : Moved w w' q m v v') (hH : Hp w' B hp q m v' S') : Cj w' B k mp hp qv F G bo qb q m v' S' L T nx ad ∧ Mv w w' (Fo k mp hp qv bo qb q m v L T) (Fo k mp hp qv bo qb q m v' L T) := by
  have ha : ∀ i, Fr k qv bo qb L T i → ¬ Fp q m v i := fun i hi e => (h.a1 i (.inr e)).1 hi
  refine ⟨⟨h.kr.kept hm.1 ha, h.pm.kept hm.1 (fun e => (h.a1 mp (.inr e)).2 rfl), hH, fun i hi => ?_, h.lo⟩, hm.1.mono fun i _ e => .inr (.inr (.inr e)), fun i hi => ?_⟩
  · rcases hi with hi | hi
    · exact h.a1 i (.inl hi)
    · rcases fp_new hm hi with e | e
      · exact h.a1 i (.inr e)
      · refine ⟨fun e2 => ?_, fun e2 => ?_⟩
        · have := h.kr.lt e2; omega
        · have := h.pm.lt; omega
  · rcases hi with hi | hi | hi | hi
    · exact .inl (.inl hi)
    · exact .inl (.inr (.inl hi))
    · exact .inl (.inr (.inr (.inl hi)))
    · rcases fp_new hm hi with e | e
      · exact .inl (.inr (.inr (.inr e)))
      · exact .inr e
/-- The place moved to a queue. -/
theorem Cj.joined (h : Cj w B k mp hp qv F G bo qb q m v S (L ++ [⟨x, none⟩]) T nx ad) {F' G' : Nd → Nd} (hk : Kept (Fn bo qb (L ++ [⟨x, none⟩]) T) w w') (hK : Kr w' k mp hp qv F' G' bo qb (L ++ [⟨x, some t⟩]) T nx ad) :
    Cj w' B k mp hp qv F' G' bo qb q m v S (L ++ [⟨x, some t⟩]) T nx ad ∧ Mv w w' (Fo k mp hp qv bo qb q m v (L ++ [⟨x, none⟩]) T) (Fo k mp hp qv bo qb q m v (L ++ [⟨x, some t⟩]) T) := by
  have hpl : placeF bo (L ++ [⟨x, some t⟩]) = placeF bo (L ++ [⟨x, none⟩]) := plc_same fun j => by simp [hasI]
  refine ⟨⟨hK, ?_, h.hh.kept hk (fun i hi e => (h.a1 i hi).1 e.fr), fun i hi => ⟨fun e => (h.a1 i hi).1 e.requ, (h.a1 i hi).2⟩, fun i hi => h.lo i (hi.imp_left Fr.requ)⟩, hk.mono fun i _ e => .inl e.fr, fun i hi => ?_⟩
  · rw [hpl]
    have := h.pm.kept hk (fun e => h.mp_not e.fr)
    simpa using this
  · rcases hi with hi | hi
    · exact .inl (.inl hi.requ)
    · exact .inl (.inr hi)
end

theorem place_blk (w : World) (x : It) : Blk ((w.alloc (.cells #[.int .i64 x.id, .int .u64 x.d, .int .u64 x.n] 44)).alloc (.cells #[.int .i64 x.id, .int .u64 x.d, .int .u64 x.n, .pointer none, .pointer none, .pointer none] 74)) (w.heap.size + 1) 74 #[.int .i64 x.id, .int .u64 x.d, .int .u64 x.n, .pointer none, .pointer none, .pointer none] := by
  have := Blk.new (w.alloc (.cells #[.int .i64 x.id, .int .u64 x.d, .int .u64 x.n] 44)) 74 #[.int .i64 x.id, .int .u64 x.d, .int .u64 x.n, .pointer none, .pointer none, .pointer none]
  rwa [World.size_alloc] at this

/-- The item's own copy of the call. -/
structure Xc (w : World) (a : Nat) (x : It) : Prop where
  c0 : w.cell? ⟨a, 0, none⟩ = some (.int .i64 x.id)
  c1 : w.cell? ⟨a, 1, none⟩ = some (.int .u64 x.d)
  c2 : w.cell? ⟨a, 2, none⟩ = some (.int .u64 x.n)
  lt : a < w.heap.size
/-- Behind a Push of what comes apart, or is the first one of its queue. -/
theorem push_per {S : List It} {L : List En} {T : List Int} {x : It} {q : Option Int} (hS : S.Perm (xs (heads L T))) (hh : (heads (L ++ [⟨x, q⟩]) T).Perm (⟨x, q⟩ :: heads L T)) : (ins x S).Perm (xs (heads (L ++ [⟨x, q⟩]) T)) := by
  have := hh.map (fun e : En => e.x)
  exact (ins_perm x S).trans ((hS.cons x).trans (by rw [List.map_cons] at this; exact this.symm))
theorem lastD_snoc {L : List En} {x : It} {t : Int} : lastD (L ++ [⟨x, none⟩]) t = lastD L t := by
  unfold lastD
  rw [ofQ_append, ofQ_cons_ne (by simp)]
  simp [ofQ]
theorem ofQ_snoc {L : List En} {x : It} {t : Int} : ofQ (L ++ [⟨x, none⟩]) t = ofQ L t := by
  rw [ofQ_append, ofQ_cons_ne (by simp)]
  simp [ofQ]
def KAdd (w : World) (B k mp hp : Nat) (qv : Value) (bo qb : Int → Nat) (q m : Nat) (v : Value) (S : List It) (L : List En) (T : List Int) (nx ad : Int) (x : It) (t : Int) (en : Ending) (w' : World) : Prop :=
  en = .returned (.tuple #[]) ∧ ∃ F' G' bo' v' S', Cj w' B k mp hp qv F' G' bo' qb q m v' S' (L ++ [⟨x, newQ L T t x.d⟩]) T (nx + 1) ad ∧ S'.Perm (xs (heads (L ++ [⟨x, newQ L T t x.d⟩]) T)) ∧
    Mv w w' (Fo k mp hp qv bo qb q m v L T) (Fo k mp hp qv bo' qb q m v' (L ++ [⟨x, newQ L T t x.d⟩]) T)

set_option maxHeartbeats 8000000 in
set_option maxRecDepth 100000 in
theorem kadd_any {w : World} {B k mp hp : Nat} {qv : Value} {F G : Nd → Nd} {bo qb : Int → Nat} {q m : Nat} {v : Value} {S : List It} {L : List En} {T : List Int} {nx ad : Int}
    (H : Cj w B k mp hp qv F G bo qb q m v S L T nx ad) (hS : S.Perm (xs (heads L T))) {x : It} (hx : x.Ok) (hn : x.n = nx) (h1 : nx < 1000000) (hl : L.length < 500) (hi : hasI L x.id = false) (t : Int) :
    Calls Try.prog 30 #[.pointer (some ⟨k, 0, none⟩), .agg #[.int .i64 x.id, .int .u64 x.d, .int .u64 x.n], .int .u64 t] w (KAdd w B k mp hp qv bo qb q m v S L T nx ad x t) := by
  have hinv := H.kr.inv
  obtain ⟨W1, hW1⟩ : ∃ W1, W1 = (w.alloc (.cells #[.int .i64 x.id, .int .u64 x.d, .int .u64 x.n] 44)).alloc (.cells #[.int .i64 x.id, .int .u64 x.d, .int .u64 x.n, .pointer none, .pointer none, .pointer none] 74) := ⟨_, rfl⟩
  have k1 : Kept (fun _ => False) w W1 := by rw [hW1]; exact ((Kept.refl _ w).alloc _).alloc _
  have hbW : Blk W1 (w.heap.size + 1) 74 #[.int .i64 x.id, .int .u64 x.d, .int .u64 x.n, .pointer none, .pointer none, .pointer none] := by rw [hW1]; exact place_blk w x
  have hxW : Blk W1 w.heap.size 44 #[.int .i64 x.id, .int .u64 x.d, .int .u64 x.n] := by rw [hW1]; exact (Blk.new w _ _).alloc _
  have j1 := H.kept k1 (fun _ _ e => e)
  have j1d := j1.drew
  obtain ⟨W2, hrun, hpm, hk2⟩ := j1d.pm.put hx.1 (by omega) (w.heap.size + 1) (plc_none hi)
  rw [← plc_snoc (e := ⟨x, none⟩) hi] at hpm
  have hk2' : Kept (fun i => i = mp) W1 W2 := ⟨hk2.os, hk2.tape, hk2.output, hk2.size, hk2.block⟩
  have hnew : ¬ Fr k qv bo qb L T (w.heap.size + 1) := fun e => by have := H.kr.lt e; omega
  have hmp : mp < w.heap.size := H.pm.lt
  have hb2 := hbW.kept hk2' (by omega)
  have hx2 := hxW.kept hk2' (by omega)
  have hI2 : CInv (L ++ [⟨x, none⟩]) T (nx + 1) := hinv.snoc (e := ⟨x, none⟩) hx hn h1 hl hi (fun s hs => by cases hs)
  have kr2 := (j1.kr.kept hk2' (fun i hi e => by subst e; exact j1.mp_not hi)).snoc hb2 hi hI2 hnew
  have j2 : Cj W2 B k mp hp qv F G (updB bo x.id (w.heap.size + 1)) qb q m v S (L ++ [⟨x, none⟩]) T (nx + 1) ad := by
    refine ⟨kr2, by simpa using hpm, j1.hh.kept hk2' (fun i hi e => (H.a1 i hi).2 e), fun i hh => ⟨fun e => ?_, (H.a1 i hh).2⟩, fun i e => ?_⟩
    · rcases Fr.snoc hi e with e | e
      · exact (H.a1 i hh).1 e
      · have := (H.hh.lt hh).1; omega
    · rcases e with e | e
      · rcases Fr.snoc hi e with e | e
        · exact H.lo i (.inl e)
        · have := H.hh.base; omega
      · exact H.lo i (.inr e)
  have mv2 : Mv w W2 (Fo k mp hp qv bo qb q m v L T) (Fo k mp hp qv (updB bo x.id (w.heap.size + 1)) qb q m v (L ++ [⟨x, none⟩]) T) := by
    refine ⟨(k1.mono fun _ _ e => e.elim).andThen hk2' (fun i _ e => .inr (.inl e)), fun i e => ?_⟩
    rcases e with e | e
    · rcases Fr.snoc hi e with e | e
      · exact .inl (.inl e)
      · exact .inr (by omega)
    · exact .inl (.inr e)
  have hlen : S.length < 1000 := by
    have := heads_len hinv
    rw [hS.length_eq]; unfold xs; rw [List.length_map]; omega
  have hnS : ∀ y ∈ S, y.id ≠ x.id := fun y hy => by
    obtain ⟨a, ha, rfl⟩ := List.mem_map.1 (hS.mem_iff.1 hy)
    exact hasI_false.1 hi a (heads_sub ha)
  have hd0 : 0 ≤ x.d := hx.2.1.1
  have HQ := Lib.hid (queue_any j2.kr t)
  have d2 := j1.kr.kb.cell 2
  simp at d2
  have lk1 := j1.kr.kb.lt
  have e0 := hxW.cell 0
  simp at e0
  have le := hxW.lt
  have HW := Lib.hid hW1
  have HH := Lib.hid (And.intro j2 (And.intro mv2 (And.intro hx2 (And.intro hlen (And.intro hnS (And.intro hd0 (And.intro hinv (And.intro hS (And.intro hx (And.intro hi (And.intro hl (And.intro hn h1))))))))))))
  clear j2 mv2 hx2 hlen hnS hd0 hinv hS hx hi hl hn h1 kr2 hI2 hb2 hnew hk2' hk2 hpm j1d j1 hxW hbW k1 hW1 H hmp
  go_enter Try.func30, Try.ntmps30
  go_wp2_with fail
  rw [← HW.out]
  go_still_tail 7, (by kernel_rfl)
  change wpList _ _ _ _ _ W1.drew
  go_wp2_with fail
  refine HQ.out.mono ?_
  rintro e w3 ⟨rfl, hb3⟩
  obtain ⟨j2, mv2, hx2, hlen, hnS, hd0, hinv, hS, hx, hi, hl, hn, h1⟩ := HH.out
  have j3 := j2.below hb3
  have mv3 := mv2.trans (Mv.of_below hb3)
  have hx3 : Blk w3 w.heap.size 44 #[.int .i64 x.id, .int .u64 x.d, .int .u64 x.n] := hx2.same (hb3.block _ hx2.lt)
  obtain ⟨bo', hbo⟩ : ∃ bo', bo' = updB bo x.id (w.heap.size + 1) := ⟨_, rfl⟩
  have hpb : bo' x.id = w.heap.size + 1 := by rw [hbo]; exact updB_same
  rw [← hbo] at j3 mv3
  have hinv2 := j3.kr.inv
  have HF := Lib.hid (And.intro hlen (And.intro hnS (And.intro hd0 (And.intro hinv (And.intro hS (And.intro hx (And.intro hi (And.intro hl (And.intro hn h1)))))))))
  have HP := Lib.hid hpb
  clear j2 mv2 hx2 hlen hnS hd0 hinv hS hx hi hl hn h1 HH HQ hrun d2 lk1 e0 le hbo
  by_cases hT : t ∈ T
  · have e1 : quO qb T t = some (qb t) := if_pos hT
    rw [e1]
    have hd := HF.out.2.2.1
    have hlast := fun n => last_any ((j3.drewN n).kr.nds) j3.kr.rings hT
    simp only [lastD_snoc] at hlast
    have HL := Lib.hid hlast
    have HJ := Lib.hid (And.intro j3 (And.intro mv3 hx3))
    have HT := Lib.hid hT
    have x1 := hx3.cell 1
    simp at x1
    have lx := hx3.lt
    clear j3 mv3 hx3 e1 hlast hd
    unfold ptrO
    by_cases hlt : x.d < lastD L t
    · have e2 : newQ L T t x.d = none := newQ_no HF.out.2.2.2.1 HF.out.2.2.1 hlt
      have hdt : decide (x.d < lastD L t) = true := by simpa using hlt
      have E2 := Lib.hid e2
      generalize lastD L t = ld at *
      clear e2
      go_wp2_with fail
      go_quiet ((go_at_call 43; exact Calls.quiet_of_same ((HL.out _).mono fun _ _ ⟨he, hw⟩ => ⟨he, hw.symm⟩)))
      clear x1 lx
      obtain ⟨w4, hw4⟩ : ∃ w4, w4 = w3.drewN nq := ⟨_, rfl⟩
      rw [← hw4]
      have j4 := HJ.out.1.drewN nq
      have mv4 := HJ.out.2.1.drewN nq
      rw [← hw4] at j4 mv4
      have hx4 : Blk w4 w.heap.size 44 #[.int .i64 x.id, .int .u64 x.d, .int .u64 x.n] := by rw [hw4]; exact HJ.out.2.2
      have d0 := j4.kr.kb.cell 0
      have x0 := hx4.cell 0
      have x1 := hx4.cell 1
      have x2 := hx4.cell 2
      simp at d0 x0 x1 x2
      have lk := j4.kr.kb.lt
      have lx := hx4.lt
      have HPu := Lib.hid (push_new (j4.drew).hh HF.out.2.2.2.2.2.1 HF.out.2.1 HF.out.1)
      have H4 := Lib.hid (And.intro j4 mv4)
      clear j4 mv4 hx4 hw4
      go_wp2_with fail
      go_still_tail 5, (by kernel_rfl)
      change wpList _ _ _ _ _ w4.drew
      go_wp2_with fail
      refine HPu.out.mono ?_
      rintro e w5 ⟨rfl, v', hH, hm⟩
      obtain ⟨j5, mv5⟩ := (H4.out.1.drew).moved hm hH
      have H5 := Lib.hid (And.intro j5 ((H4.out.2.drewN 1).trans mv5))
      clear j5 mv5 hH hm
      go_wp2_with fail
      go_end0
      unfold KAdd
      rw [E2.out]
      exact ⟨rfl, F, G, bo', v', _, H5.out.1, push_per HF.out.2.2.2.2.1 (heads_add_none rfl), H5.out.2⟩
    · have e2 : newQ L T t x.d = some t := newQ_yes HF.out.2.2.2.1 hT HF.out.2.2.1 hlt
      have hdt : decide (x.d < lastD L t) = false := by simpa using hlt
      have E2 := Lib.hid e2
      generalize lastD L t = ld at *
      have hemp := fun n => empty_any ((HJ.out.1.drewN n).kr.nds) HJ.out.1.kr.rings hT
      simp only [ofQ_snoc] at hemp
      have HEm := Lib.hid hemp
      have hI : CInv (L ++ [⟨x, some t⟩]) T (nx + 1) := by
        obtain ⟨_, _, hd0, hinv, hS, hx, hi, hl, hn, h1⟩ := HF.out
        exact hinv.snoc (e := ⟨x, some t⟩) hx hn h1 hl hi fun s hs => by
          cases hs
          exact ⟨hT, (newQ_some e2).2.2⟩
      have HI := Lib.hid hI
      clear e2 hemp hI
      go_wp2_with fail
      go_quiet ((go_at_call 43; exact Calls.quiet_of_same ((HL.out _).mono fun _ _ ⟨he, hw⟩ => ⟨he, hw.symm⟩)))
      clear x1 lx
      go_wp2_with fail
      refine (HEm.out nq).mono ?_
      rintro e w4 ⟨rfl, n4, hw4⟩
      have e3 : (w3.drewN nq).drewN n4 = w3.drewN (nq + n4) := World.drewN_drewN _ _ _
      rw [e3] at hw4
      have j4 := HJ.out.1.drewN (nq + n4)
      have mv4 := HJ.out.2.1.drewN (nq + n4)
      rw [← hw4] at j4 mv4
      have hx4 : Blk w4 w.heap.size 44 #[.int .i64 x.id, .int .u64 x.d, .int .u64 x.n] := by rw [hw4]; exact HJ.out.2.2
      by_cases hq : ofQ L t = []
      · have hq2 : (ofQ L t).isEmpty = true := by rw [hq]; rfl
        have HQ0 := Lib.hid hq
        generalize (ofQ L t).isEmpty = bb at *
        subst hq2
        clear hq
        have d0 := j4.kr.kb.cell 0
        have x0 := hx4.cell 0
        have x1 := hx4.cell 1
        have x2 := hx4.cell 2
        simp at d0 x0 x1 x2
        have lk := j4.kr.kb.lt
        have lx := hx4.lt
        have HPu := Lib.hid (push_new (j4.drew).hh HF.out.2.2.2.2.2.1 HF.out.2.1 HF.out.1)
        have H4 := Lib.hid (And.intro j4 mv4)
        clear j4 mv4 hx4 hw4
        go_wp2_with fail
        go_still_tail 5, (by kernel_rfl)
        change wpList _ _ _ _ _ w4.drew
        go_wp2_with fail
        refine HPu.out.mono ?_
        rintro e w5 ⟨rfl, v', hH, hm⟩
        obtain ⟨j5, mv5⟩ := (H4.out.1.drew).moved hm hH
        have HJn := Lib.hid (join_kr j5.kr HT.out HI.out)
        have H5 := Lib.hid (And.intro j5 ((H4.out.2.drewN 1).trans mv5))
        rw [HP.out] at HJn
        clear j5 mv5 hH hm
        go_wp2_with fail
        refine HJn.out.mono ?_
        rintro e w6 ⟨rfl, ⟨F', G', hK⟩, hk⟩
        obtain ⟨j6, mv6⟩ := H5.out.1.joined hk hK
        have H6 := Lib.hid (And.intro j6 (H5.out.2.trans mv6))
        clear hK hk j6 mv6
        go_wp2_with fail
        go_end0
        unfold KAdd
        rw [E2.out]
        exact ⟨rfl, F', G', bo', v', _, H6.out.1, push_per HF.out.2.2.2.2.1 (heads_add_first HF.out.2.2.2.1.ts HT.out rfl HQ0.out), H6.out.2⟩
      · have hq2 : (ofQ L t).isEmpty = false := by simpa using hq
        have HQ0 := Lib.hid hq
        generalize (ofQ L t).isEmpty = bb at *
        subst hq2
        have HJn := Lib.hid (join_kr j4.kr HT.out HI.out)
        have H5 := Lib.hid (And.intro j4 mv4)
        rw [HP.out] at HJn
        clear hq j4 mv4 hx4 hw4 e3
        go_wp2_with fail
        refine HJn.out.mono ?_
        rintro e w6 ⟨rfl, ⟨F', G', hK⟩, hk⟩
        obtain ⟨j6, mv6⟩ := H5.out.1.joined hk hK
        have H6 := Lib.hid (And.intro j6 (H5.out.2.trans mv6))
        clear hK hk j6 mv6
        go_wp2_with fail
        go_end0
        unfold KAdd
        rw [E2.out]
        refine ⟨rfl, F', G', bo', v, _, H6.out.1, ?_, H6.out.2⟩
        rw [heads_add_more rfl HQ0.out]
        exact HF.out.2.2.2.2.1
  · have e1 : quO qb T t = none := if_neg hT
    rw [e1]
    have HJ := Lib.hid (And.intro j3 (And.intro mv3 hx3))
    have HT := Lib.hid hT
    clear j3 mv3 hx3 hT e1
    unfold ptrO
    go_wp2_with fail
    go_quiet (fail)
    obtain ⟨w4, hw4⟩ : ∃ w4, w4 = w3.drewN nq := ⟨_, rfl⟩
    rw [← hw4]
    have j4 := HJ.out.1.drewN nq
    have mv4 := HJ.out.2.1.drewN nq
    rw [← hw4] at j4 mv4
    have hx4 : Blk w4 w.heap.size 44 #[.int .i64 x.id, .int .u64 x.d, .int .u64 x.n] := by rw [hw4]; exact HJ.out.2.2
    have d0 := j4.kr.kb.cell 0
    have x0 := hx4.cell 0
    have x1 := hx4.cell 1
    have x2 := hx4.cell 2
    simp at d0 x0 x1 x2
    have lk := j4.kr.kb.lt
    have lx := hx4.lt
    have HPu := Lib.hid (push_new (j4.drew).hh HF.out.2.2.2.2.2.1 HF.out.2.1 HF.out.1)
    have H4 := Lib.hid (And.intro j4 mv4)
    clear j4 mv4 hx4 hw4
    go_wp2_with fail
    go_still_tail 5, (by kernel_rfl)
    change wpList _ _ _ _ _ w4.drew
    go_wp2_with fail
    refine HPu.out.mono ?_
    rintro e w5 ⟨rfl, v', hH, hm⟩
    obtain ⟨j5, mv5⟩ := (H4.out.1.drew).moved hm hH
    have H5 := Lib.hid (And.intro j5 ((H4.out.2.drewN 1).trans mv5))
    clear j5 mv5 hH hm
    go_wp2_with fail
    go_end0
    have e2 : newQ L T t x.d = none := newQ_out HT.out
    unfold KAdd
    rw [e2]
    exact ⟨rfl, F, G, bo', v', _, H5.out.1, push_per HF.out.2.2.2.2.1 (heads_add_none rfl), H5.out.2⟩
end Go.Proofs.Ytncdohbdmpfefaa
