/-
  Due: what is due is taken out, and listed in order.
-/
import Derived.Test.YtncdohbdmpfefaaCoOps
namespace Go.Proofs.Ytncdohbdmpfefaa
open Go.RowKit Go.Maps Go.ChangeMaps

/-- Behind a Cut of each of these. -/
def cutAll (D : List It) (L : List En) : List En := D.foldl (fun L x => cutL x.id L) L
theorem cutAll_snoc {D : List It} {x : It} {L : List En} : cutAll (D ++ [x]) L = cutL x.id (cutAll D L) := by unfold cutAll; rw [List.foldl_append]; rfl
/-- What is due. -/
def dueD (now : Int) (X : List It) : List It := (ord X).takeWhile fun x => decide (x.d ≤ now)
def sliceN : Value → Nat
  | .slice _ n _ => n
  | _ => 0
/-- The row of items. -/
def rowI : RowK Try.prog It where
  e := 44
  s := 26
  n := 3
  bytes := 24
  zero := .agg #[.int .i64 0, .int .u64 0, .int .u64 0]
  enc := encIt
  pos := by decide
  by_ := by decide
  len := fun _ => rfl
  one := fun x u hu => by simp [encIt] at hu; rcases hu with rfl | rfl | rfl <;> rfl
  und := Try.underlying26
  info := by kernel_rfl
  zs := rfl

/-- At the loop's head. -/
structure DuI (w wr : World) (B s : Nat) (Own Own' : Nat → Prop) (L : List En) (T : List Int) (nx now : Int) (D : List It) (v : Value) (bx : Nat) : Prop where
  cm : Cm wr B s Own' (cutAll D L) T nx
  row : OwnI wr w.heap.size v D
  bk : Blk wr bx 44 #[.int .i64 (topI (ord (xs (cutAll D L)))).1.id, .int .u64 (topI (ord (xs (cutAll D L)))).1.d, .int .u64 (topI (ord (xs (cutAll D L)))).1.n]
  lb : w.heap.size ≤ bx
  nb : v.ownBlock ≠ some bx
  ab : ¬ Own' bx
  ar : ∀ i, v.ownBlock = some i → ¬ Own' i
  mv : Mv w wr Own Own'
  dd : D ++ ord (xs (cutAll D L)) = ord (xs L)
  le : ∀ x ∈ D, x.d ≤ now
theorem srt_d {x y : It} (h : Lt x y) : x.d ≤ y.d := by unfold Lt at h; omega
theorem DuI.done {w wr : World} {B s : Nat} {Own Own' : Nat → Prop} {L : List En} {T : List Int} {nx now : Int} {D : List It} {v : Value} {bx : Nat} (h : DuI w wr B s Own Own' L T nx now D v bx)
    (he : (topI (ord (xs (cutAll D L)))).2 = false ∨ now < (topI (ord (xs (cutAll D L)))).1.d) : D = dueD now (xs L) := by
  unfold dueD
  rw [← h.dd]
  have h1 : (ord (xs (cutAll D L))).takeWhile (fun x => decide (x.d ≤ now)) = [] := by
    cases e : ord (xs (cutAll D L)) with
    | nil => rfl
    | cons x R =>
      rw [e] at he
      simp only [topI] at he
      rcases he with he | he
      · cases he
      · rw [List.takeWhile_cons_of_neg (by simp; omega)]
  have h2 : ∀ (D R : List It), (∀ x ∈ D, x.d ≤ now) → (D ++ R).takeWhile (fun x => decide (x.d ≤ now)) = D ++ R.takeWhile fun x => decide (x.d ≤ now) := by
    intro D
    induction D with
    | nil => intro R _; rfl
    | cons y D ih =>
      intro R hD
      rw [List.cons_append, List.takeWhile_cons_of_pos (by simpa using hD y (by simp)), ih R fun x hx => hD x (by simp [hx])]
      rfl
  rw [h2 D _ h.le, h1, List.append_nil]

/-- What Due answers, and leaves. -/
def DueR (w : World) (B s : Nat) (Own : Nat → Prop) (L : List En) (T : List Int) (nx now : Int) (e : Ending) (w' : World) : Prop :=
  ∃ v Own', e = .returned v ∧ OwnI w' w.heap.size v (dueD now (xs L)) ∧ Cm w' B s Own' (cutAll (dueD now (xs L)) L) T nx ∧ (∀ i, v.ownBlock = some i → ¬ Own' i) ∧ Mv w w' Own Own'

theorem cutAll_sub : ∀ (D : List It) (L : List En), ∀ e ∈ cutAll D L, e ∈ L
  | [], _, _, h => h
  | x :: D, L, e, h => by
    have := cutAll_sub D (cutL x.id L) e h
    exact (cutL_mem.1 this).1

/-- One more is listed: what is kept behind the append, the new box and what Top says. -/
theorem DuI.step {w wr w1 w2 w4 : World} {B s : Nat} {Own Own' Own1 : Nat → Prop} {L : List En} {T : List Int} {nx now : Int} {D : List It} {v v' : Value} {bx : Nat} {x : It} {R : List It} {o : Obj} (h : DuI w wr B s Own Own' L T nx now D v bx)
    (hx : ord (xs (cutAll D L)) = x :: R) (hd : x.d ≤ now) (h1 : Cm w1 B s Own1 (cutL x.id (cutAll D L)) T nx) (m1 : Mv wr w1 Own' Own1)
    (hg : (w1.alloc o).grownBy w2 v.ownBlock) (hO : OwnI w2 w.heap.size v' (D ++ [x])) (hat : v'.ownBlock = v.ownBlock ∨ v'.ownBlock = some (w1.alloc o).heap.size)
    (a b c : Value) (t : TypeId) (hb : Below (w2.heap.size + 1) (w2.alloc (.cells #[a, b, c] t)) w4) (ht : t = 44) (y : It) (hy : y = (topI (ord (xs (cutL x.id (cutAll D L))))).1) :
    DuI w (set3 w4 w2.heap.size (.int .i64 y.id) (.int .u64 y.d) (.int .u64 y.n)) B s Own Own1 L T nx now (D ++ [x]) v' w2.heap.size := by
  have hrow : ∀ i, v.ownBlock = some i → i < wr.heap.size ∧ w.heap.size ≤ i := fun i e => ⟨(own_lt3 h.row e).1, (own_lt3 h.row e).2.1⟩
  have ar1 : ∀ i, v.ownBlock = some i → ¬ Own1 i := fun i e e1 => by
    rcases m1.o i e1 with e2 | e2
    · exact h.ar i e e2
    · have := (hrow i e).1; omega
  have z1 : w1.heap.size + 1 ≤ w2.heap.size := by have := hg.size; simpa using this
  have zw : w.heap.size ≤ w1.heap.size := Nat.le_trans h.mv.k.size m1.k.size
  obtain ⟨w3, h3⟩ : ∃ w3, w3 = w2.alloc (.cells #[a, b, c] t) := ⟨_, rfl⟩
  have z3 : w3.heap.size = w2.heap.size + 1 := by rw [h3]; simp
  have k12 : Kept (fun i => v.ownBlock = some i) w1 w2 := ((Kept.refl _ w1).alloc o).grown hg (fun i e _ => e)
  have k23 : Kept (fun _ => False) w2 w3 := by rw [h3]; exact (Kept.refl _ w2).alloc _
  rw [← h3, ← z3] at hb
  have k34 : Kept (fun _ => False) w3 w4 := Kept.of_below hb
  have k45 : Kept (fun i => i = w2.heap.size) w4 (set3 w4 w2.heap.size (.int .i64 y.id) (.int .u64 y.d) (.int .u64 y.n)) :=
    (((Kept.refl (fun i => i = w2.heap.size) w4).setCell (p := ⟨w2.heap.size, 0, none⟩) rfl _).setCell (p := ⟨w2.heap.size, 1, none⟩) rfl _).setCell (p := ⟨w2.heap.size, 2, none⟩) rfl _
  have b3 : Blk w3 w2.heap.size 44 #[a, b, c] := by rw [h3, ht]; exact Blk.new _ _ _
  have b4 := b3.kept k34 (fun e => e)
  have n1 : ∀ i, Own1 i → i < w2.heap.size := fun i e => by have := (h1.lt e).1; omega
  have hv'lt : ∀ i, v'.ownBlock = some i → i < w2.heap.size := fun i e => (own_lt3 hO e).1
  have hv'o : ∀ i, v'.ownBlock = some i → ¬ Own1 i := fun i e e1 => by
    rcases hat with e2 | e2
    · exact ar1 i (e2 ▸ e) e1
    · rw [e2] at e
      have e3 := Option.some.inj e
      rw [World.size_alloc] at e3
      have := (h1.lt e1).1; omega
  have hR := ord_del (k := x.id) (h.cm.inv.uniq)
  rw [← xs_cut, hx] at hR
  have hu : Uniq (x :: R) := by
    have := (h.cm.inv.uniq).perm (ord_perm _)
    rw [hx] at this; exact this
  rw [del_head hu] at hR
  refine ⟨?_, ?_, ?_, by omega, fun e => ?_, fun e => ?_, hv'o, ?_, ?_, fun z hz => ?_⟩
  · rw [cutAll_snoc]
    have h2 := h1.kept k12 fun i hi e => ar1 i e hi
    exact ((h2.kept k23 (fun _ _ e => e)).kept k34 (fun _ _ e => e)).kept k45 fun i hi e => by have := n1 i hi; omega
  · refine own_same (w := w4) (own_same (w := w3) (w' := w4) (own_same (w := w2) (w' := w3) hO ?_) ?_) ?_
    · exact fun i e => k23.block i (own_lt3 hO e).1 (fun e => e)
    · exact fun i e => k34.block i (by have := hv'lt i e; omega) (fun e => e)
    · exact fun i e => set3_other _ _ _ _ _ (by have := hv'lt i e; omega)
  · rw [cutAll_snoc, ← hy]
    have := ((b4.set_ 0 (.int .i64 y.id)).set_ 1 (.int .u64 y.d)).set_ 2 (.int .u64 y.n)
    simpa [set3] using this
  · have := hv'lt _ e; omega
  · have := n1 _ e; omega
  · refine ⟨?_, fun i e => ?_⟩
    · have k1 : Kept Own w w1 := (h.mv.trans m1).k
      have k2 : Kept (fun i => v.ownBlock = some i ∨ i = w2.heap.size) w1 (set3 w4 w2.heap.size (.int .i64 y.id) (.int .u64 y.d) (.int .u64 y.n)) :=
        (((k12.mono fun i _ e => .inl e).trans (k23.mono fun _ _ e => e.elim)).trans (k34.mono fun _ _ e => e.elim)).trans (k45.mono fun i _ e => .inr e)
      refine k1.andThen k2 fun i hi e => ?_
      rcases e with e | e
      · have := (hrow i e).2; omega
      · omega
    · exact (h.mv.trans m1).o i e
  · rw [cutAll_snoc, hR, List.append_assoc, List.singleton_append, ← h.dd, hx]
  · rcases List.mem_append.1 hz with hz | hz
    · exact h.le z hz
    · simp at hz; subst hz; exact hd

set_option maxHeartbeats 8000000 in
set_option maxRecDepth 100000 in
theorem cdue_any {w : World} {B s : Nat} {Own : Nat → Prop} {L : List En} {T : List Int} {nx : Int} (H : Cm w B s Own L T nx) {now : Int} (hnow : U now) :
    Calls Try.prog 14 #[.pointer (some ⟨s, 0, none⟩), .int .u64 now] w (DueR w B s Own L T nx now) := by
  have hs0 := H.own
  have hI := H.inv
  have HT := Lib.hid (ctop_any H)
  have H0 := Lib.hid (And.intro H hI)
  clear H
  have hlen : (ord (xs L)).length ≤ 500 := by
    rw [(ord_perm _).length_eq]; unfold xs; rw [List.length_map]; exact hI.len
  clear hI
  go_enter Try.func14, Try.ntmps14
  go_wp2_with fail
  refine HT.out.mono ?_
  rintro e w1 ⟨rfl, hb1⟩
  obtain ⟨x0, hx0⟩ : ∃ x, x = (topI (ord (xs L))).1 := ⟨_, rfl⟩
  obtain ⟨b0, hbb⟩ : ∃ b, b = (topI (ord (xs L))).2 := ⟨_, rfl⟩
  rw [← hx0, ← hbb]
  unfold aggI
  have HX := Lib.hid (And.intro hx0 hbb)
  have HB1 := Lib.hid hb1
  clear hx0 hbb hb1
  go_wp2_with fail
  go_loopw [5, 6, 7] (fun s5 s6 s7 wr => ∃ (D : List It) (v : Value) (bx : Nat) (Own' : Nat → Prop), s5 = v ∧ s6 = .pointer (some ⟨bx, 0, none⟩) ∧ s7 = .bool (topI (ord (xs (cutAll D L)))).2 ∧ DuI w wr B s Own Own' L T nx now D v bx) (fun s5 _ _ _ => (ord (xs L)).length - sliceN s5)
  case atStart =>
    refine ⟨[], .slice none 0 0, w1.heap.size, Own, rfl, rfl, by rw [HX.out.2]; rfl, (H0.out.1.below HB1.out).alloc _, World.ownsRow_nil _ _ _ _, ?_, HB1.out.size, (by intro e; cases e), fun e => ?_, (by intro i e; cases e), (Mv.of_below HB1.out).trans (Mv.of_kept ((Kept.refl _ w1).alloc _)), rfl, by simp⟩
    · have := Blk.new w1 44 #[.int .i64 x0.id, .int .u64 x0.d, .int .u64 x0.n]
      rw [HX.out.1] at this ⊢
      exact this
    · have := (H0.out.1.lt e).1; have := HB1.out.size; omega
  case round =>
    obtain ⟨D, v, bx, Own', rfl, rfl, rfl, hI⟩ := hrel
    have z0 := hI.bk.cell 0
    have z1 := hI.bk.cell 1
    have z2 := hI.bk.cell 2
    simp at z0 z1 z2
    have lz := hI.bk.lt
    cases hO : ord (xs (cutAll D L)) with
    | nil =>
      have hD := hI.done (.inl (by rw [hO]; rfl))
      have HE := Lib.hid (And.intro hI hD)
      clear hI hD z0 z1 z2 lz hO
      unfold topI
      go_wp2_with fail
      go_ret
      obtain ⟨hI, hD⟩ := HE.out
      subst hD
      exact ⟨_, Own', rfl, hI.row, hI.cm, hI.ar, hI.mv⟩
    | cons x R =>
      rw [hO] at z0 z1 z2
      simp only [topI] at z0 z1 z2 ⊢
      by_cases hle : x.d ≤ now
      · have hmem : x ∈ xs (cutAll D L) := (ord_perm _).mem_iff.1 (by rw [hO]; simp)
        obtain ⟨e, he, hex⟩ := List.mem_map.1 hmem
        have hok := hI.cm.inv.ok e he
        rw [hex] at hok
        have hh : hasI (cutAll D L) x.id = true := hasI_true.2 ⟨e, he, by rw [hex]⟩
        have hcut := ccut_any hI.cm hok.1
        rw [hh] at hcut
        have HC := Lib.hid hcut
        have HI := Lib.hid (And.intro hI hO)
        have hDl : D.length < (ord (xs L)).length := by rw [← hI.dd, hO]; simp
        obtain ⟨A, c, hv, -⟩ := RowK.own_shows (R := rowI) hI.row
        subst hv
        have hnb : (⟨bx, 0, none⟩ : Addr).block = bx := rfl
        have HL := Lib.hid hle
        have HDl := Lib.hid hDl
        clear hI hO hcut hh hok hex he hmem hnb hDl
        go_wp2_with fail
        refine HC.out.mono ?_
        rintro en w1' ⟨rfl, Own1, hc1, m1⟩
        have b1 := HI.out.1.bk.kept m1.k HI.out.1.ab
        rw [HI.out.2] at b1
        simp only [topI] at b1
        have y0 := b1.cell 0
        have y1 := b1.cell 1
        have y2 := b1.cell 2
        simp at y0 y1 y2
        have ly := b1.lt
        have r1 : rowI.own w1' w.heap.size (.slice A D.length c) D := RowK.own_kept (R := rowI) HI.out.1.row m1.k HI.out.1.ar
        have HM := Lib.hid (And.intro hc1 (And.intro m1 b1))
        have HR := Lib.hid r1
        have zw1 : w.heap.size ≤ w1'.heap.size := Nat.le_trans HI.out.1.mv.k.size m1.k.size
        clear hc1 m1 b1 r1 z0 z1 z2 lz
        go_wp2_with (at_builtin; refine RowK.append (R := rowI) rfl _ _ rfl w.heap.size (.slice A D.length c) D [x] rfl (RowK.own_alloc HR.out _) (some ⟨w1'.heap.size, 0, none⟩) 1 1 rfl rfl (RowK.new_shows (R := rowI) w1' x 44) (fun e => by cases e) (by have := HDl.out; simp; omega) (by simp; omega) ?_; intro u1 w2 O1 hg1 ho1; have b2 := (HM.out.2.2.alloc (.cells #[.int .i64 x.id, .int .u64 x.d, .int .u64 x.n] 44)).same (hg1.block bx (by simp; omega) (fun e => HI.out.1.nb e.symm)); have q0 := b2.cell 0; have q1 := b2.cell 1; have q2 := b2.cell 2; simp at q0 q1 q2; have lq := b2.lt; have HG := Lib.hid (And.intro O1 (And.intro hg1 ho1)); clear O1 hg1 ho1 b2)
        have h2 : Cm w2 B s Own1 (cutL x.id (cutAll D L)) T nx := HM.out.1.kept (((Kept.refl _ w1').alloc (.cells #[.int .i64 x.id, .int .u64 x.d, .int .u64 x.n] 44)).grown HG.out.2.1 (F := fun i => (Value.slice A D.length c).ownBlock = some i) (fun i e _ => e)) (fun i hi e => by
          rcases HM.out.2.1.o i hi with e2 | e2
          · exact HI.out.1.ar i e e2
          · have := (own_lt3 HI.out.1.row e).1; omega)
        refine (ctop_any (h2.alloc (.cells #[.int .i64 x.id, .int .u64 x.d, .int .u64 x.n] 44))).mono ?_
        rintro en w4 ⟨rfl, hb4⟩
        have b4 := (Blk.new w2 44 #[.int .i64 x.id, .int .u64 x.d, .int .u64 x.n]).kept (Kept.of_below (F := fun _ => False) hb4) (fun e => e)
        have t0 := b4.cell 0
        have t1 := b4.cell 1
        have t2 := b4.cell 2
        have tf := b4.frozen
        have lt4 := b4.lt
        simp at t0 t1 t2
        simp only [World.size_alloc] at hb4
        obtain ⟨y, hy⟩ : ∃ y, y = (topI (ord (xs (cutL x.id (cutAll D L))))).1 := ⟨_, rfl⟩
        have HE := Lib.hid (DuI.step HI.out.1 HI.out.2 HL.out HM.out.1 HM.out.2.1 HG.out.2.1 HG.out.1 HG.out.2.2 _ _ _ _ hb4 rfl y hy)
        rw [← hy]
        obtain ⟨A2, c2, hu2, -⟩ := RowK.own_shows (R := rowI) HG.out.1
        have hsn : sliceN u1 = D.length + 1 := by rw [hu2]; simp [sliceN]
        have HS := Lib.hid hsn
        clear h2 b4 hb4 hy hu2 hsn q0 q1 q2 lq y0 y1 y2 ly
        unfold aggI
        go_wp2_with fail
        go_roundw
        case rel => exact ⟨D ++ [x], u1, w2.heap.size, Own1, rfl, rfl, by rw [cutAll_snoc]; rfl, HE.out⟩
        case measure =>
          rw [HS.out]
          simp only [sliceN]
          have := HDl.out
          omega
      · have hle' : ¬ x.d ≤ now := hle
        have hdt : decide (x.d ≤ now) = false := by simpa using hle
        have hD := hI.done (.inr (by rw [hO]; simp only [topI]; omega))
        have HE := Lib.hid (And.intro hI hD)
        clear hI hD hO hle hle'
        go_wp2_with fail
        go_ret
        obtain ⟨hI, hD⟩ := HE.out
        subst hD
        exact ⟨_, Own', rfl, hI.row, hI.cm, hI.ar, hI.mv⟩
end Go.Proofs.Ytncdohbdmpfefaa
