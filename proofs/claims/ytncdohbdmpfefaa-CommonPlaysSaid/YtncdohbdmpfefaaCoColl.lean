/-
  slices.AppendSeq and slices.Collect of a set's items: a new slice of all of them, in some order; slices.SortedFunc: in their order.
-/
import Derived.Test.YtncdohbdmpfefaaCoItems
import Derived.Test.YtncdohbdmpfefaaCoRemove
import Derived.Maps.AppendAt
import Derived.Deep.AppendLies
namespace Go.Proofs.Ytncdohbdmpfefaa
open Go.RowKit Go.Maps Go.ChangeMaps Go.Shelf

attribute [local go_sem] Oper.semAt_some

/-- A row of its own that the slice v names, with the items P. -/
def OwnI (W : World) (B : Nat) (v : Value) (P : List It) : Prop := W.ownsRow B 44 3 v P.length (P.flatMap encIt)
/-- Row blocks. -/
def TI (o : Obj) : Prop := ∃ cs mk, o = .cells cs 44 mk
theorem TI_cells : ∀ o, TI o → o.isCells = true := fun o ⟨cs, mk, e⟩ => by subst e; rfl
theorem TI_t : ∀ cs t mk, TI (.cells cs t mk) → t = 44 := fun cs t mk ⟨_, _, e⟩ => by injection e
theorem own_lt3 {w : World} {base : Nat} {e : TypeId} {size n : Nat} {v : Value} {xs : List Value} (h : w.ownsRow base e size v n xs) {k : Nat} (hk : v.ownBlock = some k) : k < w.heap.size ∧ base ≤ k ∧ ∃ cs mk, w.heap[k]? = some (.cells cs e mk) := by
  rcases h.2 with ⟨rfl, _⟩ | ⟨g, cap, cur, rfl, hg, hh, _⟩
  · cases hk
  · cases hk; exact ⟨(Array.getElem?_eq_some_iff.1 hh).1, hg, _, _, hh⟩
/-- The box of a slice that has been collected so far. -/
structure ColI (w : World) (bL : Nat) (pre : List It) (W : World) : Prop where
  row : ∃ v, Boxed W bL 26 v ∧ OwnI W w.heap.size v pre
  bel : Below w.heap.size w W
theorem ColI.stab {w : World} {bL N : Nat} {pre : List It} {X Y : World} (h : ColI w bL pre X) (hc : ChR N X Y) (hN : w.heap.size ≤ N) : ColI w bL pre Y := by
  obtain ⟨⟨v, h1, h2⟩, h3⟩ := h
  refine ⟨⟨v, hc.cells _ _ h1 rfl, own_same h2 fun k hk => ?_⟩, ⟨hc.os.trans h3.os, hc.tape.trans h3.tape, hc.output.trans h3.output, Nat.le_trans h3.size hc.size, fun k hk => (hc.low k (by omega) (Nat.lt_of_lt_of_le hk h3.size)).trans (h3.block k hk)⟩⟩
  obtain ⟨_, _, cs, mk, e⟩ := own_lt3 h2 hk
  rw [e]
  exact hc.cells _ _ e rfl
theorem ColI.kept {w : World} {bL : Nat} {pre : List It} {X Y : World} (h : ColI w bL pre X) (k : Kept (fun _ => False) X Y) : ColI w bL pre Y := h.stab (ChO.of_kept k).toR (Nat.le_refl _)

/-- One more is appended: what becomes of the world. -/
theorem ColI.more {w : World} {bL N : Nat} {pre : List It} {x : It} {v v' : Value} {W W1 : World} {Pr : Nat → Prop} (hB : Below w.heap.size w W) (hbL : w.heap.size ≤ bL ∧ bL < N) (hPr : ∀ i, Pr i → i < w.heap.size ∨ (i < N ∧ i ≠ bL ∧ ∀ cs mk, W.heap[i]? ≠ some (.cells cs 44 mk)))
    (hv : Boxed W bL 26 v) (hrow : OwnI W w.heap.size v pre)
    (hown : W1.ownsRow w.heap.size 44 3 v' (pre.length + 1) (pre.flatMap encIt ++ [.int .i64 x.id, .int .u64 x.d, .int .u64 x.n]))
    (hg : (W.alloc (.cells #[.int .i64 x.id, .int .u64 x.d, .int .u64 x.n] 44)).grownBy W1 v.ownBlock) :
    Boxed W1 bL 26 v ∧ ColI w bL (pre ++ [x]) (W1.setCell ⟨bL, 0, none⟩ v') ∧ KeepsFrom N W (W1.setCell ⟨bL, 0, none⟩ v') ∧ KpO TI N Pr W (W1.setCell ⟨bL, 0, none⟩ v') := by
  have lb := hv.lt
  have hne : ∀ k, v.ownBlock = some k → k ≠ bL := fun k hk e => by
    obtain ⟨_, _, cs, mk, h⟩ := own_lt3 hrow hk
    subst e
    rw [show W.heap[k]? = _ from hv] at h
    injection h with h; injection h with _ h
    revert h; decide
  have k1 : Kept (fun k => v.ownBlock = some k) W W1 := ((Kept.refl _ W).alloc _).grown hg (fun k e _ => e)
  have hv1 : Boxed W1 bL 26 v := (k1.block _ lb (fun e => hne _ e rfl)).trans hv
  have k2 : Kept (fun k => v.ownBlock = some k ∨ k = bL) W (W1.setCell ⟨bL, 0, none⟩ v') := (k1.mono fun _ _ e => .inl e).setCell (p := ⟨bL, 0, none⟩) (.inr rfl) _
  have hv2 : Boxed (W1.setCell ⟨bL, 0, none⟩ v') bL 26 v' := by
    have hb1 : Blk W1 bL 26 #[v] := hv1
    have := hb1.set_ 0 v'
    simpa [Boxed, Blk] using this
  have hown2 : OwnI (W1.setCell ⟨bL, 0, none⟩ v') w.heap.size v' (pre ++ [x]) := by
    rw [enc_snoc] at hown
    have h2 := own_same (w' := W1.setCell ⟨bL, 0, none⟩ v') hown fun k hk => Below.heap_setCell _ _ _ _ (fun e => by
      obtain ⟨_, _, cs, mk, h⟩ := own_lt3 hown hk
      simp only at e
      subst e
      rw [show W1.heap[k]? = _ from hv1] at h
      injection h with h; injection h with _ h
      revert h; decide)
    unfold OwnI
    simpa using h2
  have hbel : Below w.heap.size W (W1.setCell ⟨bL, 0, none⟩ v') := k2.below (fun k e => by
    rcases e with e | rfl
    · exact (own_lt3 hrow e).2.1
    · exact hbL.1) hB.size
  refine ⟨hv1, ⟨⟨v', hv2, hown2⟩, hB.trans (hbel.mono (Nat.le_refl _))⟩, KeepsFrom.of_kept k2 (fun k o _ ho e => ?_), KpO.of_kept k2 (fun k hk e => ⟨fun hkN hp => ?_, fun hkN o ho => ?_⟩)⟩
  · rcases e with e | rfl
    · obtain ⟨_, _, cs, mk, h⟩ := own_lt3 hrow e
      rw [h] at ho; cases ho; rfl
    · rw [show W.heap[k]? = _ from hv] at ho; cases ho; rfl
  · rcases e with e | rfl
    · obtain ⟨_, h1, cs, mk, h⟩ := own_lt3 hrow e
      rcases hPr k hp with h2 | ⟨_, _, h2⟩
      · omega
      · exact h2 _ _ h
    · rcases hPr k hp with h2 | ⟨_, h2, _⟩
      · omega
      · exact h2 rfl
  · rcases e with e | rfl
    · obtain ⟨_, _, cs, mk, h⟩ := own_lt3 hrow e
      rw [h] at ho; cases ho
      exact ⟨_, _, rfl⟩
    · omega

def Listed (w : World) (P : List It) (e : Ending) (w' : World) : Prop := ∃ v, e = .returned v ∧ OwnI w' w.heap.size v P ∧ Below w.heap.size w w'

set_option maxRecDepth 100000 in
set_option maxHeartbeats 8000000 in
theorem appendSeq_any {w : World} {B k mp hp : Nat} {qv : Value} {F G : Nd → Nd} {bo qb : Int → Nat} {q m : Nat} {v : Value} {S : List It} {L : List En} {T : List Int} {nx ad : Int} (H : Cj w B k mp hp qv F G bo qb q m v S L T nx ad) (bK : Nat) (hK : Boxed w bK 56 (.pointer (some ⟨k, 0, none⟩))) :
    Calls Try.prog 60 #[.slice none 0 0, .func (.func 52) #[] #[.pointer (some ⟨bK, 0, none⟩)]] w fun e w' => ∃ P, P.Perm (xs L) ∧ Listed w P e w' := by
  have HR := Lib.hid (And.intro H (And.intro hK (And.intro (fun i hi => (H.lt (i := i) hi).1) hK.lt)))
  have hmp : ∀ e ∈ L, bo e.x.id ≠ mp := fun e he => H.pm.ne (H.kr.pl e he)
  have HM := Lib.hid hmp
  clear H hK hmp
  refine (callsIn_wide (n := 4)).1 ?_
  refine callsIn_of_wp_marks Try.func60 rfl trivial ?_ rfl
  simp only [Try.ntmps60, List.size_toArray, List.length_cons, List.length_nil, Nat.reduceAdd, Nat.reduceSub, Array.replicate_succ, Array.replicate_zero, List.push_toArray, List.append_toArray, List.nil_append, List.cons_append]
  gi_wp2
  obtain ⟨i0, hi, hz0, hz1, hz2⟩ := info_parts infoIt
  obtain ⟨V, hV⟩ : ∃ V, V = w.alloc (.cells #[.slice none 0 0] 26) := ⟨_, rfl⟩
  have v0 : Kept (fun _ => False) w V := by rw [hV]; exact (Kept.refl _ w).alloc _
  have v1 : Boxed V w.heap.size 26 (.slice none 0 0) := by rw [hV]; exact World.alloc_heap_new w _
  have v4 : V.heap.size = w.heap.size + 1 := by rw [hV]; simp
  rw [← hV]
  obtain ⟨hR, hK, hlt, hKl⟩ := HR.out
  have hRV := hR.kept v0 (fun _ _ e => e)
  have v3 : Boxed V bK 56 (.pointer (some ⟨k, 0, none⟩)) := (v0.block _ hKl (fun e => e)).trans hK
  have hcol : ColI w w.heap.size [] V := ⟨⟨_, v1, World.ownsRow_nil _ _ _ _⟩, v0.below (fun _ e => e.elim) (Nat.le_refl _)⟩
  have hlen : L.length ≤ 500 := hR.kr.inv.len
  clear hV
  refine rangeFunc_o (n := 4) (by omega) (gf := 52) (lb := #[.pointer (some ⟨bK, 0, none⟩)]) rfl (enters_of Try.func52 (by kernel_rfl) rfl)
    (encs := encX) TI (fun i => i < w.heap.size) (items_o 3 (by omega) hRV.kr.kb hRV.pm hRV.kr.pl hRV.kr.inv.ids HM.out bK v3 TI TI_cells _ V.heap.size ⟨by omega, by have := hlt k (.inl (.inl rfl)); omega⟩ (by have := hlt mp (.inr (.inl rfl)); exact ⟨by omega, this⟩) (fun e he => by have := hlt _ (.inl (.inr (.inr (.inr ⟨e, he, rfl⟩)))); exact ⟨by omega, this⟩)) (fun _ => rfl)
    (fun pre W => ColI w w.heap.size pre W) (fun _ _ _ => False)
    (fun s X Y hi hc => hi.stab hc (by omega)) (fun _ _ _ _ hi _ => hi.elim) hcol ?round ?done (fun _ _ _ _ hi _ _ => hi.elim)
  case round =>
    rintro l pre x W hz hS hlen2
    have HS := Lib.hid hS
    have hpl : pre.length < 500 := by omega
    clear hS hlen2 hlen hcol hRV hR hlt v0 v1 v3 hKl hK
    simp only [encX]
    gi_wp2_with fail
    have ka : Kept (fun _ => False) W (W.alloc (.cells #[.int .i64 x.id, .int .u64 x.d, .int .u64 x.n] 44)) := (Kept.refl _ W).alloc _
    refine ⟨KeepsFrom.of_kept ka (fun _ _ _ _ e => e.elim), KpO.of_kept ka (fun _ _ e => e.elim), fun W2 hc => ?_⟩
    have hS2 := (HS.out.kept ka).stab hc (by omega)
    have hx2 : Blk W2 W.heap.size 44 #[.int .i64 x.id, .int .u64 x.d, .int .u64 x.n] := hc.cells _ _ (World.alloc_heap_new W _) rfl
    have y0 := hx2.cell 0
    have y1 := hx2.cell 1
    have y2 := hx2.cell 2
    simp at y0 y1 y2
    have ly := hx2.lt
    obtain ⟨⟨v, hv, hrow⟩, hB⟩ := hS2
    have cv := hv.cell
    have lv := hv.lt
    have HB := Lib.hid (And.intro hB hv)
    have HRow := Lib.hid hrow
    clear hB hv hrow ka hc hx2
    gi_wp2_with (gi_at_builtin; refine wpListIn_append_own _ rfl _ _ 26 rfl w.heap.size 44 i0 _ 3 24 Try.underlying26 hi hz0 hz1 hz2 rfl (by decide) _ _ _ rfl (World.ownsRow.alloc HRow.out _) ⟨W2.heap.size, 0, none⟩ 1 1 [.int .i64 x.id, .int .u64 x.d, .int .u64 x.n] rfl rfl (World.news_of_block (cs := #[.int .i64 x.id, .int .u64 x.d, .int .u64 x.n]) (heap_alloc_new W2 _)) (by simp [Value.oneCell']) (by unfold maxLen; omega) (by omega) (by have := HB.out.1.size; simp; omega) ?_; intro v' w1 hown' hgrow _; obtain ⟨g', cap', rfl⟩ := ownsRow_succ hown'; obtain ⟨hv1, hm1, hm2, hm3⟩ := ColI.more (N := V.heap.size) (Pr := fun i => i < w.heap.size) HB.out.1 ⟨Nat.le_refl _, by omega⟩ (fun i hi => .inl hi) HB.out.2 HRow.out hown' hgrow; have hc1 := hv1.cell; have hf1 := hv1.frozen; have HE := Lib.hid (And.intro hm1 (And.intro hm2 hm3)); clear hv1 hm1 hm2 hm3 hown' hgrow)
    exact ⟨HE.out.2.1, HE.out.2.2, HE.out.1⟩
  case done =>
    rintro ys W hys hS hD hz
    obtain ⟨⟨v, hv, hrow⟩, hB⟩ := hS
    have cv := hv.cell
    have lv := hv.lt
    have HE := Lib.hid (show ∀ W', ChO (w.heap.size - 1) W W' → OwnI W' w.heap.size v ys ∧ Below w.heap.size w W' from fun W' hc => by
      refine ⟨own_same hrow fun k hk => ?_, hc.os.trans hB.os, hc.tape.trans hB.tape, hc.output.trans hB.output, Nat.le_trans hB.size hc.size, fun k hk => (hc.low k (by omega) (Nat.lt_of_lt_of_le hk hB.size)).trans (hB.block k hk)⟩
      obtain ⟨_, _, cs, mk, e⟩ := own_lt3 hrow hk
      rw [e]
      exact hc.cells _ _ e rfl)
    have hw1 : 1 ≤ w.heap.size := by omega
    clear hv hrow hB hcol hRV hR hlt v0 v1 v3 hlen hKl hK
    gi_wp2_with fail
    exact leaves_marks (w.heap.size - 1) [V.heap.size] W (by simp) (fun D hD' => by simp at hD'; subst hD'; exact ⟨by omega, hD⟩) (fun W' hc => ⟨_, results_tmp rfl _ _ _, ys, hys, v, rfl, HE.out W' hc⟩)

theorem collect_any {w : World} {B k mp hp : Nat} {qv : Value} {F G : Nd → Nd} {bo qb : Int → Nat} {q m : Nat} {v : Value} {S : List It} {L : List En} {T : List Int} {nx ad : Int} (H : Cj w B k mp hp qv F G bo qb q m v S L T nx ad) (bK : Nat) (hK : Boxed w bK 56 (.pointer (some ⟨k, 0, none⟩))) :
    Calls Try.prog 50 #[.func (.func 52) #[] #[.pointer (some ⟨bK, 0, none⟩)]] w fun e w' => ∃ P, P.Perm (xs L) ∧ Listed w P e w' := by
  have HA := Lib.hid (appendSeq_any H bK hK)
  clear H hK
  go_enter Try.func50, Try.ntmps50
  go_wp2_with fail
  refine HA.out.mono ?_
  rintro e w' ⟨P, hP, v, rfl, h1, h2⟩
  go_wp2_with fail
  go_ret
  exact ⟨P, hP, v, rfl, h1, h2⟩
end Go.Proofs.Ytncdohbdmpfefaa
