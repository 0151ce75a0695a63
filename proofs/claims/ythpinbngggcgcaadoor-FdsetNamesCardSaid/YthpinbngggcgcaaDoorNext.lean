/-
  The contract of package fdset's Next: the least member that is at least a number, and true, or 0 and false.
-/
import Derived.Test.YthpinbngggcgcaaDoorMembers
namespace Go.Proofs.YthpinbngggcgcaaDoor
open Go.RowKit Go.Shelf

attribute [local go_sem] Oper.semAt_some

/-- The least of a rising list from a number on, and whether there is one. -/
def nextI (l : List Int) (f : Int) : Int × Bool := match l.find? (fun x => decide (f ≤ x)) with
  | some x => (x, true)
  | none => (0, false)
theorem nextI_none (l : List Int) (f : Int) (h : ∀ x ∈ l, x < f) : nextI l f = (0, false) := by
  unfold nextI
  rw [List.find?_eq_none.2 fun x hx => by have := h x hx; simp; omega]
theorem nextI_some (p q : List Int) (x f : Int) (h : ∀ y ∈ p, y < f) (hx : f ≤ x) : nextI (p ++ x :: q) f = (x, true) := by
  unfold nextI
  rw [List.find?_append, List.find?_eq_none.2 fun y hy => by have := h y hy; simp; omega]
  simp [hx]
theorem memI_vals (a b : Nat) (l : List M) (h : valsOf l = mem a b) : memI a b = l.map (fun x => (x.1 : Int)) := by
  unfold memI
  rw [← h]
  simp [valsOf]
theorem memI_vals_pre (a b : Nat) (l : List M) (h : valsOf l <+: mem a b) : ∃ q, memI a b = l.map (fun x => (x.1 : Int)) ++ q := by
  obtain ⟨t, ht⟩ := h
  refine ⟨t.map (fun n : Nat => (n : Int)), ?_⟩
  unfold memI
  rw [← ht, List.map_append]
  simp [valsOf]

/-- All are below a number. -/
def AllLt (f : Int) (l : List M) : Prop := ∀ y ∈ l, (y.1 : Int) < f
theorem AllLt.more {f : Int} {l : List M} {x : M} (h : AllLt f l) (hx : ¬ f ≤ (x.1 : Int)) : AllLt f (l ++ [x]) := fun y hy => (List.mem_append.1 hy).elim (h y) (fun e => by rw [List.mem_singleton] at e; rw [e]; omega)
theorem AllLt.map {f : Int} {l : List M} (h : AllLt f l) : ∀ z ∈ l.map (fun x => (x.1 : Int)), z < f := by
  intro z hz; obtain ⟨y, hy, rfl⟩ := List.mem_map.1 hz; exact h y hy

set_option maxRecDepth 100000 in
set_option maxHeartbeats 4000000 in
theorem next_any (a b : Nat) (f : Int) (w : World) (ha : a < 4294967296) (hb : b < 4294967296) (hT : Tab w) (hg : 0 < w.heap.size) :
    Calls Tryd.prog 15 #[.agg #[.int .u32 (a : Int), .int .u32 (b : Int)], .int .i64 f] w fun e W' => e = .returned (.tuple #[.int .i64 (nextI (memI a b) f).1, .bool (nextI (memI a b) f).2]) ∧ Below w.heap.size w W' := by
  obtain ⟨r0, r1, hr⟩ : ∃ r0 r1, nextI (memI a b) f = (r0, r1) := ⟨_, _, rfl⟩
  rw [hr]
  have Hr := Lib.hid hr
  clear hr
  refine (callsIn_wide (n := 4)).1 ?_
  obtain ⟨Y, hY⟩ : ∃ Y, (((w.alloc (.cells #[.int .u32 (a : Int), .int .u32 (b : Int)] 25)).alloc (.cells #[.int .i64 f] 3)).alloc (.cells #[.int .i64 0] 3)).alloc (.cells #[.bool false] 4) = Y := ⟨_, rfl⟩
  have hYsz : Y.heap.size = w.heap.size + 1 + 1 + 1 + 1 := by rw [← hY]; simp
  have hYb : Below w.heap.size w Y := by rw [← hY]; exact ((((Below.refl _ w).alloc (Nat.le_refl _) _).alloc (by simp) _).alloc (by simp; omega) _).alloc (by simp; omega) _
  have c0 : Y.cell? ⟨w.heap.size, 0, none⟩ = some (.int .u32 (a : Int)) ∧ Y.cell? ⟨w.heap.size, 1, none⟩ = some (.int .u32 (b : Int)) := by
    have h := (((isSet_new w a b).grown (World.grownBy_alloc _ (.cells #[.int .i64 f] 3) none) (by simp)).grown (World.grownBy_alloc _ (.cells #[.int .i64 0] 3) none) (by simp)).grown (World.grownBy_alloc _ (.cells #[.bool false] 4) none) (by simp)
    rw [hY] at h
    exact ⟨h.1, h.2.1⟩
  have b1 : Boxed Y (w.heap.size + 1) 3 (.int .i64 f) := by
    rw [← hY]
    have h := Boxed.new (w.alloc (.cells #[.int .u32 (a : Int), .int .u32 (b : Int)] 25)) 3 (.int .i64 f)
    simp only [World.size_alloc] at h
    exact (h.alloc _).alloc _
  have b2 : Boxed Y (w.heap.size + 1 + 1) 3 (.int .i64 0) := by
    rw [← hY]
    have h := Boxed.new ((w.alloc (.cells #[.int .u32 (a : Int), .int .u32 (b : Int)] 25)).alloc (.cells #[.int .i64 f] 3)) 3 (.int .i64 0)
    simp only [World.size_alloc] at h
    exact h.alloc _
  have b3 : Boxed Y (w.heap.size + 1 + 1 + 1) 4 (.bool false) := by
    rw [← hY]
    have h := Boxed.new (((w.alloc (.cells #[.int .u32 (a : Int), .int .u32 (b : Int)] 25)).alloc (.cells #[.int .i64 f] 3)).alloc (.cells #[.int .i64 0] 3)) 4 (.bool false)
    simp only [World.size_alloc] at h
    exact h
  have hTY : Tab Y := hT.below hg hYb
  have HY := Lib.hid hY
  clear hY
  obtain ⟨c00, c01⟩ := c0
  have hsN := isSet_new Y a b
  rw [hYsz] at hsN
  refine callsIn_of_wp_marks Tryd.func15 rfl trivial ?_ rfl
  simp only [Tryd.ntmps15, List.size_toArray, List.length_cons, List.length_nil, Nat.reduceAdd, Nat.reduceSub, Array.replicate_succ, Array.replicate_zero, List.push_toArray, List.append_toArray, List.nil_append, List.cons_append]
  gi_wp2_with (refine ⟨trivial, ?_⟩; gi_at_call 37; refine (callsIn_wide.2 (members_any a b _)).mono ?_; rintro e w' ⟨rfl, rfl⟩)
  rw [HY.out]
  obtain ⟨Z, hZ⟩ : ∃ Z, Y.alloc (.cells #[.int .u32 (a : Int), .int .u32 (b : Int)] 25) = Z := ⟨_, rfl⟩
  have hZY : Below Y.heap.size Y Z := by rw [← hZ]; exact (Below.refl _ _).alloc (Nat.le_refl _) _
  have hZsz : Z.heap.size = w.heap.size + 1 + 1 + 1 + 1 + 1 := by rw [← hZ]; simp [hYsz]
  have hB0 : Below w.heap.size w Z := below_endL hYb hZY
  have hTZ : Tab Z := hTY.below (Nat.lt_of_lt_of_le hg hYb.size) hZY
  rw [hZ] at hsN ⊢
  have d1 : Boxed Z (w.heap.size + 1) 3 (.int .i64 f) := by rw [← hZ]; exact b1.alloc _
  have d2 : Boxed Z (w.heap.size + 1 + 1) 3 (.int .i64 0) := by rw [← hZ]; exact b2.alloc _
  have d3 : Boxed Z (w.heap.size + 1 + 1 + 1) 4 (.bool false) := by rw [← hZ]; exact b3.alloc _
  clear hZ hZY c00 c01 b1 b2 b3 hTY hYb hYsz HY
  refine wpIn_rangeFunc_ownF (n := 4) rfl (by omega) (gf := 46) (lb := #[.pointer (some ⟨w.heap.size + 1 + 1 + 1 + 1, 0, none⟩)]) rfl trivial (enters_of Tryd.func46 (by kernel_rfl) rfl)
    (members_stops 3 (by omega) (w.heap.size + 1 + 1 + 1 + 1) w.heap.size hg a b ha hb Z hsN hTZ (by omega)) belowK_t (belowK_b (by omega)) (Below.refl _ _) (fun _ => rfl)
    (fun pre W => (AllLt f pre ∧ W.cell? ⟨w.heap.size + 1, 0, none⟩ = some (.int .i64 f) ∧ W.cell? ⟨w.heap.size + 1 + 1, 0, none⟩ = some (.int .i64 0) ∧ W.frozen? ⟨w.heap.size + 1 + 1, 0, none⟩ = false ∧ W.cell? ⟨w.heap.size + 1 + 1 + 1, 0, none⟩ = some (.bool false) ∧ W.frozen? ⟨w.heap.size + 1 + 1 + 1, 0, none⟩ = false) ∧ Below w.heap.size w W)
    (fun c pre W => (c = .ret ∧ ∃ (p0 : List M) (x : M), pre = p0 ++ [x] ∧ AllLt f p0 ∧ f ≤ (x.1 : Int) ∧ W.cell? ⟨w.heap.size + 1 + 1, 0, none⟩ = some (.int .i64 (x.1 : Int)) ∧ W.cell? ⟨w.heap.size + 1 + 1 + 1, 0, none⟩ = some (.bool true)) ∧ Below w.heap.size w W)
    (OwnFrom.and (Own.from (fun s A B row hs hg hr => ⟨hs.1, cell_kept hs.2.1 hg hr, cell_kept hs.2.2.1 hg hr, (frozen_kept hs.2.2.1 hg hr).trans hs.2.2.2.1, cell_kept hs.2.2.2.2.1 hg hr, (frozen_kept hs.2.2.2.2.1 hg hr).trans hs.2.2.2.2.2⟩) _) (ownFrom_below (Nat.le_refl _) (by omega)))
    (fun c => OwnFrom.and (Own.from (fun s A B row hs hg hr => by obtain ⟨e, p0, x, h1, h2, h3, h4, h5⟩ := hs; exact ⟨e, p0, x, h1, h2, h3, cell_kept h4 hg hr, cell_kept h5 hg hr⟩) _) (ownFrom_below (Nat.le_refl _) (by omega)))
    ⟨⟨(fun y hy => by cases hy), d1.cell, d2.cell, d2.frozen, d3.cell, d3.frozen⟩, hB0⟩
    (fun x => { tmps := #[.agg #[.int .u32 (a : Int), .int .u32 (b : Int)], .int .i64 f, .pointer (some ⟨w.heap.size, 0, none⟩), .pointer (some ⟨w.heap.size + 1, 0, none⟩), .pointer (some ⟨w.heap.size + 1 + 1, 0, none⟩), .pointer (some ⟨w.heap.size + 1 + 1 + 1, 0, none⟩), .int .i64 (x.1 : Int), .agg #[.int .u32 (a : Int), .int .u32 (b : Int)], .func (.func 46) #[] #[.pointer (some ⟨w.heap.size + 1 + 1 + 1 + 1, 0, none⟩)], .int .i64 (x.1 : Int), undef, undef, undef, undef], defers := [] }) ?assign ?body ?done ?stop
  case assign =>
    intro l x W K hK
    gi_wp2
    exact hK
  case body =>
    rintro l pre x W ⟨⟨hp, hcf, hc2, hf2, hc3, hf3⟩, hB⟩ _
    by_cases hx : f ≤ (x.1 : Int)
    · gi_wp2
      exact ⟨(KeepsOthers.setCell _ _ _).trans (KeepsOthers.setCell _ _ _), ⟨rfl, pre, x, rfl, hp, hx, (World.cell?_setCell_other _ _ _ _ (by simp)).trans (World.cell?_setCell_same _ _ _ hc2), World.cell?_setCell_same _ _ _ ((World.cell?_setCell_other _ _ _ _ (by simp)).trans hc3)⟩, (hB.setCell (by show w.heap.size ≤ w.heap.size + 1 + 1; omega) _).setCell (by show w.heap.size ≤ w.heap.size + 1 + 1 + 1; omega) _⟩
    · gi_wp2
      exact ⟨KeepsOthers.refl _, Below.refl _ _, ⟨hp.more (by omega), hcf, hc2, hf2, hc3, hf3⟩, hB⟩
  case done =>
    rintro D ys W hD hys ⟨⟨hne, _, hc2, hf2, hc3, hf3⟩, hB⟩ hK
    have hres : nextI (memI a b) f = (0, false) := nextI_none _ _ (by rw [memI_vals a b ys hys]; exact hne.map)
    have he := Hr.out.symm.trans hres
    simp only [Prod.mk.injEq] at he
    obtain ⟨rfl, rfl⟩ := he
    clear hres
    gi_wp2
    obtain ⟨X, hX⟩ : ∃ X, (W.setCell ⟨w.heap.size + 1 + 1, 0, none⟩ (.int .i64 0)).setCell ⟨w.heap.size + 1 + 1 + 1, 0, none⟩ (.bool false) = X := ⟨_, rfl⟩
    have hx2 : X.cell? ⟨w.heap.size + 1 + 1, 0, none⟩ = some (.int .i64 0) := by rw [← hX]; exact (World.cell?_setCell_other _ _ _ _ (by simp)).trans (World.cell?_setCell_same _ _ _ hc2)
    have hx3 : X.cell? ⟨w.heap.size + 1 + 1 + 1, 0, none⟩ = some (.bool false) := by rw [← hX]; exact World.cell?_setCell_same _ _ _ ((World.cell?_setCell_other _ _ _ _ (by simp)).trans hc3)
    have hK' : X.heap[D]? = some (.deferred (some [])) := by rw [← hX]; exact (KeepsOthers.setCell _ _ _).same D _ ((KeepsOthers.setCell W _ _).same D _ hK rfl) rfl
    have hBX : Below w.heap.size w X := by rw [← hX]; exact (hB.setCell (by show w.heap.size ≤ w.heap.size + 1 + 1; omega) _).setCell (by show w.heap.size ≤ w.heap.size + 1 + 1 + 1; omega) _
    rw [hX]
    refine ⟨by simp, .inl ⟨_, _, rfl, run_takeDeferred hK', ?_⟩⟩
    have hc5 := cell_kept hx2 (grownBy_putObj' _ D (.deferred none)) (fun r e => by cases e; exact ⟨_, hK', rfl⟩)
    have hc6 := cell_kept hx3 (grownBy_putObj' _ D (.deferred none)) (fun r e => by cases e; exact ⟨_, hK', rfl⟩)
    refine ⟨.tuple #[.int .i64 0, .bool false], ?_, rfl, hBX.trans (belowK_b (w := w) (Nat.le_refl _) X D _ _ (by omega) hK' rfl rfl)⟩
    simp [results, Tryd.results15, go_sem, hc5, hc6]
  case stop =>
    rintro D c pre W hD hpre ⟨⟨rfl, p0, x, rfl, h1, h2, h4, h5⟩, hB⟩ hK
    obtain ⟨q, hq⟩ := memI_vals_pre a b _ hpre
    have hres : nextI (memI a b) f = ((x.1 : Int), true) := by
      rw [hq, List.map_append, List.append_assoc]
      exact nextI_some _ _ _ _ h1.map h2
    have he := Hr.out.symm.trans hres
    simp only [Prod.mk.injEq] at he
    obtain ⟨rfl, rfl⟩ := he
    clear hres
    gi_wp2
    refine ⟨by simp, .inl ⟨_, _, rfl, run_takeDeferred hK, ?_⟩⟩
    have hc5 := cell_kept h4 (grownBy_putObj' _ D (.deferred none)) (fun r e => by cases e; exact ⟨_, hK, rfl⟩)
    have hc6 := cell_kept h5 (grownBy_putObj' _ D (.deferred none)) (fun r e => by cases e; exact ⟨_, hK, rfl⟩)
    refine ⟨.tuple #[.int .i64 (x.1 : Int), .bool true], ?_, rfl, hB.trans (belowK_b (w := w) (Nat.le_refl _) W D _ _ (by omega) hK rfl rfl)⟩
    simp [results, Tryd.results15, go_sem, hc5, hc6]
end Go.Proofs.YthpinbngggcgcaaDoor
