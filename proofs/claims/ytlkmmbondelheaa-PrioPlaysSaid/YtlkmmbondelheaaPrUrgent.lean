/-
  rows.urgent: the items of the most urgent priority.
-/
import Derived.Test.YtlkmmbondelheaaPrLeast
namespace Go.Proofs.Ytlkmmbondelheaa
open Go.RowKit Go.Maps Go.ChangeMaps Go.Shelf

attribute [local go_sem] Oper.semAt_some

theorem byP_first2 (L : List It) : ∀ (k : Nat), byP L k = [] ∨ ∃ p R, leastL L = some p ∧ byP L k = ofP L p ++ R ∧ ofP L p ≠ [] ∧ ∀ y ∈ R, y.pr ≠ p
  | 0 => .inl rfl
  | k + 1 => by
    rw [byP_succ]
    rcases byP_first2 L k with h | ⟨p, R, h1, h2, h3, h4⟩
    · rw [h, List.nil_append]
      by_cases e : ofP L k = []
      · exact .inl e
      · refine .inr ⟨k, [], least_first e fun q hq => ?_, by simp, e, by simp⟩
        apply List.eq_nil_iff_forall_not_mem.2
        intro y hy
        have : y ∈ byP L k := byP_mem.2 ⟨(ofP_mem.1 hy).1, by have := (ofP_mem.1 hy).2; omega⟩
        rw [h] at this; simp at this
    · refine .inr ⟨p, R ++ ofP L k, h1, by rw [h2]; simp, h3, fun y hy => ?_⟩
      rcases List.mem_append.1 hy with hy | hy
      · exact h4 y hy
      · obtain ⟨z, hz⟩ := List.exists_mem_of_ne_nil _ h3
        have h5 : z ∈ byP L k := by rw [h2]; exact List.mem_append_left _ hz
        have h6 := (byP_mem.1 h5).2
        have h7 := (ofP_mem.1 hz).2
        have h8 := (ofP_mem.1 hy).2
        omega
/-- What has come while the priority was the same, is all of that priority, if something else comes, or nothing. -/
theorem batch_of {L pre T : List It} {k p : Nat} (h : pre ++ T = byP L k) (hp : leastL L = some p) (hn : pre ≠ []) (h1 : ∀ y ∈ pre, y.pr = p) (h2 : T = [] ∨ ∃ x R, T = x :: R ∧ x.pr ≠ p) : batchL L = pre := by
  unfold batchL
  rw [hp]
  show ofP L p = pre
  rcases byP_first2 L k with e | ⟨q, R, e1, e2, e3, e4⟩
  · rw [e] at h; simp at h; exact absurd h.1 hn
  · rw [hp] at e1
    injection e1 with e1
    subst e1
    rw [e2] at h
    rcases List.append_eq_append_iff.1 h with ⟨A, a1, a2⟩ | ⟨A, a1, a2⟩
    · cases A with
      | nil => simp at a1; exact a1
      | cons y A =>
        have hy : y ∈ ofP L p := by rw [a1]; simp
        rcases h2 with h2 | ⟨x, R', h2, h3⟩
        · rw [h2] at a2; simp at a2
        · rw [h2] at a2
          injection a2 with a2 _
          exact absurd (by rw [a2]; exact (ofP_mem.1 hy).2) h3
    · cases A with
      | nil => simp at a1; exact a1.symm
      | cons y A =>
        have hy : y.pr = p := h1 y (by rw [a1]; simp)
        exact absurd hy (e4 y (by rw [a2]; simp))

structure UrI (w : World) (r : Nat) (c : Int) (pre : List It) (W : World) : Prop where
  col : ColI w w.heap.size pre W
  le : Boxed W (w.heap.size + 1) 3 (.int .i64 c)
  bR : Boxed W (w.heap.size + 2) 62 (.pointer (some ⟨r, 0, none⟩))
theorem UrI.stab {w : World} {r N : Nat} {c : Int} {pre : List It} {X Y : World} (h : UrI w r c pre X) (hc : ChR N X Y) (hN : w.heap.size ≤ N) : UrI w r c pre Y := ⟨h.col.stab hc hN, hc.cells _ _ h.le rfl, hc.cells _ _ h.bR rfl⟩
def Upto (L pre : List It) (c : Int) : Prop := (pre = [] ∧ c = -1) ∨ (pre ≠ [] ∧ ∃ p : Nat, leastL L = some p ∧ c = (p : Int) ∧ ∀ y ∈ pre, y.pr = p)

/-- least is set. -/
theorem UrI.setLe {w : World} {r N : Nat} {c : Int} {pre : List It} {W : World} (h : UrI w r c pre W) (hN : w.heap.size + 3 ≤ N) (c' : Int) : UrI w r c' pre (W.setCell ⟨w.heap.size + 1, 0, none⟩ (.int .i64 c')) ∧ KeepsFrom N W (W.setCell ⟨w.heap.size + 1, 0, none⟩ (.int .i64 c')) ∧
    KpO TI N (fun i => i < w.heap.size ∨ i = w.heap.size + 2) W (W.setCell ⟨w.heap.size + 1, 0, none⟩ (.int .i64 c')) := by
  have kk : Kept (fun k => k = w.heap.size + 1) W (W.setCell ⟨w.heap.size + 1, 0, none⟩ (.int .i64 c')) := (Kept.refl (fun k => k = w.heap.size + 1) W).setCell (p := ⟨w.heap.size + 1, 0, none⟩) rfl _
  obtain ⟨⟨v, hv, hrow⟩, hB⟩ := h.col
  refine ⟨⟨⟨⟨v, (kk.block _ hv.lt (by omega)).trans hv, own_same hrow fun k hk => kk.block k (own_lt hrow hk).1 (fun e => ?_)⟩, hB.trans (kk.below (fun k e => by omega) hB.size)⟩, ?_, (kk.block _ h.bR.lt (by omega)).trans h.bR⟩,
    KeepsFrom.of_kept kk (fun k o hk _ e => by omega), KpO.of_kept kk (fun k _ e => ⟨fun _ hp => by omega, fun hk => by omega⟩)⟩
  · obtain ⟨_, _, cs, mk, e2⟩ := own_lt hrow hk
    subst e
    rw [show W.heap[w.heap.size + 1]? = _ from h.le] at e2
    injection e2 with e2; injection e2 with _ e2
    revert e2; decide
  · have hb1 : Blk W (w.heap.size + 1) 3 #[.int .i64 c] := h.le
    have := hb1.set_ 0 (.int .i64 c')
    simpa [Boxed, Blk] using this
theorem UrI.bR_not {w : World} {r : Nat} {c : Int} {pre : List It} {W : World} (h : UrI w r c pre W) {N : Nat} (hN : w.heap.size + 3 ≤ N) : ∀ i, (i < w.heap.size ∨ i = w.heap.size + 2) → i < w.heap.size ∨ (i < N ∧ i ≠ w.heap.size ∧ ∀ cs mk, W.heap[i]? ≠ some (.cells cs 44 mk)) := fun i hi => by
  rcases hi with hi | rfl
  · exact .inl hi
  · refine .inr ⟨by omega, by omega, fun cs mk e => ?_⟩
    rw [show W.heap[w.heap.size + 2]? = _ from h.bR] at e
    injection e with e; injection e with _ e
    revert e; decide

/-- Behind the append the other two boxes are as they were. -/
theorem UrI.after {w : World} {r : Nat} {c : Int} {pre pre' : List It} {W w1 : World} {v v' : Value} {o : Obj} (h : UrI w r c pre W) (hm : ColI w w.heap.size pre' (w1.setCell ⟨w.heap.size, 0, none⟩ v')) (hg : (W.alloc o).grownBy w1 v.ownBlock) (hrow : OwnI W w.heap.size v pre) :
    UrI w r c pre' (w1.setCell ⟨w.heap.size, 0, none⟩ v') := by
  have hne : ∀ k t u, Boxed W k t u → t ≠ 44 → k ≠ w.heap.size → (w1.setCell ⟨w.heap.size, 0, none⟩ v').heap[k]? = W.heap[k]? := fun k t u hb ht hk => by
    refine (Below.heap_setCell _ _ _ _ hk).trans ((hg.block k (by have := hb.lt; simp; omega) (fun e => ?_)).trans (Below.heap_alloc _ _ _ hb.lt))
    obtain ⟨_, _, cs, mk, e2⟩ := own_lt hrow e.symm
    rw [show W.heap[k]? = _ from hb] at e2
    injection e2 with e2; injection e2 with _ e2
    exact ht e2
  exact ⟨hm, (hne _ _ _ h.le (by decide) (by omega)).trans h.le, (hne _ _ _ h.bR (by decide) (by omega)).trans h.bR⟩
theorem news_set (W : World) (a : Addr) (u : Value) (x : It) : ∀ (j : Nat) (y : Value), [Value.int .i64 x.id, .int .i64 x.fl, .int .i64 x.ct][j]? = some y →
    ((W.setCell a u).alloc (.cells #[.int .i64 x.id, .int .i64 x.fl, .int .i64 x.ct] 44)).cell? ((⟨W.heap.size, 0, none⟩ : Addr).add j) = some y := by
  have h := World.news_of_block (cs := #[.int .i64 x.id, .int .i64 x.fl, .int .i64 x.ct]) (heap_alloc_new (W.setCell a u) (.cells #[.int .i64 x.id, .int .i64 x.fl, .int .i64 x.ct] 44))
  rw [show (W.setCell a u).heap.size = W.heap.size by simp [World.setCell]] at h
  exact h
theorem ur_end {w W : World} {P : List It} {v : Value} {N0 : Nat} (hv : Boxed W w.heap.size 39 v) (hrow : OwnI W w.heap.size v P) (hB : Below w.heap.size w W) (hN : w.heap.size ≤ N0) : ∀ W', ChO N0 W W' → OwnI W' w.heap.size v P ∧ Below w.heap.size w W' := fun W' hc => by
  have h := (ColI.mk ⟨v, hv, hrow⟩ hB : ColI w w.heap.size P W).stab hc.toR hN
  refine ⟨own_same hrow fun k hk => ?_, h.bel⟩
  obtain ⟨_, _, cs, mk, e⟩ := own_lt hrow hk
  rw [e]
  exact hc.cells _ _ e rfl

set_option maxRecDepth 100000 in
set_option maxHeartbeats 8000000 in
theorem urgent_any {w : World} {r g m many : Nat} {F G : Nd → Nd} {L : List It} (h : Rw w r g m many F G L) : Calls Try.prog 36 #[.pointer (some ⟨r, 0, none⟩)] w (Listed w (batchL L)) := by
  have HR := Lib.hid (And.intro h (fun k hk => h.lt (k := k) hk))
  clear h
  refine (callsIn_wide (n := 9)).1 ?_
  refine callsIn_of_wp_marks Try.func36 rfl trivial ?_ rfl
  simp only [Try.ntmps36, List.size_toArray, List.length_cons, List.length_nil, Nat.reduceAdd, Nat.reduceSub, Array.replicate_succ, Array.replicate_zero, List.push_toArray, List.append_toArray, List.nil_append, List.cons_append]
  gi_wp2_with fail
  refine wpIn_wide.2 (wp_scope_straight ((wpIn_wide (n := 9)).1 ?_))
  gi_wp2
  refine wpIn_label ?_
  gi_wp2_with (refine ⟨trivial, ?_⟩; gi_at_call 37; refine (callsIn_wide.2 (items_call _ r)).mono ?_; rintro e w1 ⟨rfl, rfl⟩)
  obtain ⟨i0, hi, hz0, hz1, hz2⟩ := info_parts infoIt
  obtain ⟨V, hV⟩ : ∃ V, V = ((w.alloc (.cells #[.slice none 0 0] 39)).alloc (.cells #[.int .i64 (-1)] 3)).alloc (.cells #[.pointer (some ⟨r, 0, none⟩)] 62) := ⟨_, rfl⟩
  have v0 : Kept (fun _ => False) w V := by rw [hV]; exact (((Kept.refl _ w).alloc _).alloc _).alloc _
  have v1 : Boxed V w.heap.size 39 (.slice none 0 0) := by rw [hV]; exact (Below.heap_alloc _ _ _ (by simp; omega)).trans ((Below.heap_alloc _ _ _ (by simp)).trans (World.alloc_heap_new w _))
  have v2 : Boxed V (w.heap.size + 1) 3 (.int .i64 (-1)) := by
    rw [hV]
    have := World.alloc_heap_new (w.alloc (.cells #[.slice none 0 0] 39)) (.cells #[.int .i64 (-1)] 3)
    rw [World.size_alloc] at this
    exact (Below.heap_alloc _ _ _ (by simp)).trans this
  have v3 : Boxed V (w.heap.size + 2) 62 (.pointer (some ⟨r, 0, none⟩)) := by
    rw [hV]
    have := World.alloc_heap_new ((w.alloc (.cells #[.slice none 0 0] 39)).alloc (.cells #[.int .i64 (-1)] 3)) (.cells #[.pointer (some ⟨r, 0, none⟩)] 62)
    rw [World.size_alloc, World.size_alloc] at this
    exact this
  have v4 : V.heap.size = w.heap.size + 3 := by rw [hV]; simp
  rw [← hV]
  obtain ⟨hR, hlt⟩ := HR.out
  have hRV : Rw V r g m many F G L := hR.same (fun k hk => v0.block k (hlt k hk) (fun e => e))
  have hur : UrI w r (-1) [] V := ⟨⟨⟨_, v1, World.ownsRow_nil _ _ _ _⟩, v0.below (fun _ e => e.elim) (Nat.le_refl _)⟩, v2, v3⟩
  have hlen : (byP L many).length ≤ 800000 := by
    have h1 : ∀ k, (byP L k).length ≤ k * 100000 := fun k => by
      induction k with
      | zero => simp [byP]
      | succ k ih => rw [byP_succ, List.length_append]; have h2 := List.length_filter_le (fun x : It => decide (x.pr = k)) L; have := hR.len; unfold ofP; omega
    have := h1 many; have := hR.mny.2; omega
  clear hV
  refine rangeFunc_o (n := 9) (by omega) (gf := 41) (lb := #[.pointer (some ⟨w.heap.size + 2, 0, none⟩)]) rfl (enters_of Try.func41 (by kernel_rfl) rfl)
    (encs := encJ) TI (fun i => i < w.heap.size ∨ i = w.heap.size + 2) (items_o 8 (by omega) hRV _ v3 TI _ V.heap.size ⟨by omega, .inr rfl⟩ TI_cells TI_t (fun i hi => by have := hlt i hi; exact ⟨by omega, .inl this⟩)) (fun _ => rfl)
    (fun pre W => ∃ c, UrI w r c pre W ∧ Upto L pre c) (fun c _ W => c = .exit 0 ∧ ColI w w.heap.size (batchL L) W)
    (fun s X Y hi hc => by obtain ⟨c, h1, h2⟩ := hi; exact ⟨c, h1.stab hc (by omega), h2⟩) (fun c s X Y hi hc => ⟨hi.1, hi.2.stab hc (by omega)⟩) ⟨-1, hur, .inl ⟨rfl, rfl⟩⟩ ?round ?done ?stop
  case round =>
    rintro l pre x W hz ⟨c, hS, hU⟩ ⟨R, hR1⟩
    have HS := Lib.hid (And.intro hS (And.intro hU hR1))
    have hpl : pre.length < 800000 := by rw [← hR1] at hlen; simp at hlen; omega
    clear hS hR1 hur hRV hR hlt v0 v1 v2 v3 hlen hU
    simp only [encJ]
    gi_wp2_with fail
    have ka : Kept (fun _ => False) W (W.alloc (.cells #[.int .i64 x.id, .int .i64 x.fl, .int .i64 x.ct] 44)) := (Kept.refl _ W).alloc _
    refine ⟨KeepsFrom.of_kept ka (fun _ _ _ _ e => e.elim), KpO.of_kept ka (fun _ _ e => e.elim), fun W2 hc => ?_⟩
    have hS2 := (HS.out.1.stab (ChO.of_kept ka).toR (Nat.le_refl _)).stab hc (by omega)
    have hx2 : Blk W2 W.heap.size 44 #[.int .i64 x.id, .int .i64 x.fl, .int .i64 x.ct] := hc.cells _ _ (World.alloc_heap_new W _) rfl
    have y0 := hx2.cell 0
    have y1 := hx2.cell 1
    have y2 := hx2.cell 2
    simp at y0 y1 y2
    have ly := hx2.lt
    have zc := hS2.le.cell
    have zl := hS2.le.lt
    have zf := hS2.le.frozen
    obtain ⟨sLe, sk1, sk2⟩ := hS2.setLe (N := V.heap.size) (by omega) (x.pr : Int)
    obtain ⟨⟨v, hv, hrow⟩, hB⟩ := id sLe.col
    have cv : W2.cell? ⟨w.heap.size, 0, none⟩ = some v := by
      have := hv.cell
      rw [World.cell?_of_block (Below.heap_setCell _ _ _ _ (by show w.heap.size ≠ w.heap.size + 1; omega))] at this
      exact this
    have lv : w.heap.size < W2.heap.size := by have := hv.lt; simpa [World.setCell] using this
    have HB := Lib.hid (And.intro hB (And.intro hv (And.intro (sLe.bR_not (N := V.heap.size) (by omega)) (And.intro sLe (And.intro sk1 (And.intro sk2 hS2))))))
    have HRow := Lib.hid hrow
    clear hB hv hrow ka hc hx2 sLe sk1 sk2 hS2
    have hxW : w.heap.size + 1 < W.heap.size := by omega
    by_cases hcase : c = -1 ∨ c = (x.pr : Int)
    · have HU := Lib.hid (show Upto L (pre ++ [x]) (x.pr : Int) from by
        obtain ⟨_, hU, hR1⟩ := HS.out
        rcases hU with ⟨rfl, _⟩ | ⟨hn, p, hp, rfl, hall⟩
        · exact .inr ⟨by simp, x.pr, byP_head hR1.symm, rfl, by simp⟩
        · have hpx : p = x.pr := by omega
          subst hpx
          exact .inr ⟨by simp, _, hp, rfl, fun y hy => by
            rcases List.mem_append.1 hy with hy | hy
            · exact hall y hy
            · simp at hy; rw [hy]⟩)
      by_cases hc1 : c = -1
      · subst hc1
        clear hcase
        gi_wp2_with (gi_at_builtin; refine wpListIn_append_own _ rfl _ _ 39 rfl w.heap.size 44 i0 _ 3 24 Try.underlying39 hi hz0 hz1 hz2 rfl (by decide) _ _ _ rfl (World.ownsRow.alloc HRow.out _) ⟨W2.heap.size, 0, none⟩ 1 1 [.int .i64 x.id, .int .i64 x.fl, .int .i64 x.ct] rfl rfl (news_set W2 _ _ x) (by simp [Value.oneCell']) (by unfold maxLen; omega) (by omega) (by have := HB.out.1.size; simp; simp at this; omega) ?_; intro v' w1 hown' hgrow _; obtain ⟨g', cap', rfl⟩ := ownsRow_succ hown'; obtain ⟨hv1, hm1, hm2, hm3⟩ := ColI.more (N := V.heap.size) (Pr := fun i => i < w.heap.size ∨ i = w.heap.size + 2) HB.out.1 ⟨Nat.le_refl _, by omega⟩ HB.out.2.2.1 HB.out.2.1 HRow.out hown' hgrow; have hU := UrI.after HB.out.2.2.2.1 hm1 hgrow HRow.out; have hc1 := hv1.cell; have hf1 := hv1.frozen; have HE := Lib.hid (And.intro hm2 (And.intro hm3 hU)); clear hv1 hm1 hm2 hm3 hown' hgrow hU)
        exact ⟨HB.out.2.2.2.2.1.trans HE.out.1, HB.out.2.2.2.2.2.1.trans HE.out.2.1, (x.pr : Int), HE.out.2.2, HU.out⟩
      · have hc2 : c = (x.pr : Int) := hcase.resolve_left hc1
        subst hc2
        have q1 : ((x.pr : Int) == -1) = false := by simp
        clear hcase hc1
        gi_wp2_with (gi_at_builtin; refine wpListIn_append_own _ rfl _ _ 39 rfl w.heap.size 44 i0 _ 3 24 Try.underlying39 hi hz0 hz1 hz2 rfl (by decide) _ _ _ rfl (World.ownsRow.alloc HRow.out _) ⟨W2.heap.size, 0, none⟩ 1 1 [.int .i64 x.id, .int .i64 x.fl, .int .i64 x.ct] rfl rfl (news_set W2 _ _ x) (by simp [Value.oneCell']) (by unfold maxLen; omega) (by omega) (by have := HB.out.1.size; simp; simp at this; omega) ?_; intro v' w1 hown' hgrow _; obtain ⟨g', cap', rfl⟩ := ownsRow_succ hown'; obtain ⟨hv1, hm1, hm2, hm3⟩ := ColI.more (N := V.heap.size) (Pr := fun i => i < w.heap.size ∨ i = w.heap.size + 2) HB.out.1 ⟨Nat.le_refl _, by omega⟩ HB.out.2.2.1 HB.out.2.1 HRow.out hown' hgrow; have hU := UrI.after HB.out.2.2.2.1 hm1 hgrow HRow.out; have hc1 := hv1.cell; have hf1 := hv1.frozen; have HE := Lib.hid (And.intro hm2 (And.intro hm3 hU)); clear hv1 hm1 hm2 hm3 hown' hgrow hU)
        exact ⟨HB.out.2.2.2.2.1.trans HE.out.1, HB.out.2.2.2.2.2.1.trans HE.out.2.1, (x.pr : Int), HE.out.2.2, HU.out⟩
    · have q1 : (c == -1) = false := by simp; omega
      have q2 : (c == (x.pr : Int)) = false := by simp; omega
      have HC := Lib.hid hcase
      clear hcase
      gi_wp2_with fail
      refine ⟨KeepsFrom.refl _ _, KpO.refl _ _ _ _, rfl, ?_⟩
      obtain ⟨_, hU, hR1⟩ := HS.out
      have hS2 := HB.out.2.2.2.2.2.2
      rcases hU with ⟨rfl, e⟩ | ⟨hn, p, hp, rfl, hall⟩
      · exact absurd (.inl e) HC.out
      · rw [batch_of hR1 hp hn hall (.inr ⟨x, R, rfl, fun e => HC.out (.inr (by rw [e]))⟩)]
        exact hS2.col
  case done =>
    rintro xs W rfl ⟨c, hS, hU⟩ hD hz
    have hb : ColI w w.heap.size (batchL L) W := by
      rcases hU with ⟨e, _⟩ | ⟨hn, p, hp, rfl, hall⟩
      · have hL : L = [] := byP_nil (fun x hx => (hR.ok x hx).pr) e
        have := hS.col
        rw [e] at this
        rw [hL]; exact this
      · rw [batch_of (k := many) (T := []) (by simp) hp hn hall (.inl rfl)]; exact hS.col
    obtain ⟨⟨v, hv, hrow⟩, hB⟩ := hb
    have cv := hv.cell
    have lv := hv.lt
    have HE := Lib.hid (ur_end hv hrow hB (N0 := w.heap.size + 1) (by omega))
    clear hv hrow hB hur hRV hR hlt v0 v1 v2 v3 hS hU hlen
    gi_wp2_with fail
    exact leaves_marks (w.heap.size + 1) [V.heap.size] W (by simp) (fun D hD' => by simp at hD'; subst hD'; exact ⟨by omega, hD⟩) (fun W' hc => ⟨_, results_tmp rfl _ _ _, v, rfl, HE.out W' hc⟩)
  case stop =>
    rintro c pre W hp ⟨rfl, ⟨⟨v, hv, hrow⟩, hB⟩⟩ hD hz
    have cv := hv.cell
    have lv := hv.lt
    have HE := Lib.hid (ur_end hv hrow hB (N0 := w.heap.size + 1) (by omega))
    clear hv hrow hB hur hRV hR hlt v0 v1 v2 v3 hlen
    gi_wp2_with fail
    exact leaves_marks (w.heap.size + 1) [V.heap.size] W (by simp) (fun D hD' => by simp at hD'; subst hD'; exact ⟨by omega, hD⟩) (fun W' hc => ⟨_, results_tmp rfl _ _ _, v, rfl, HE.out W' hc⟩)
end Go.Proofs.Ytlkmmbondelheaa
