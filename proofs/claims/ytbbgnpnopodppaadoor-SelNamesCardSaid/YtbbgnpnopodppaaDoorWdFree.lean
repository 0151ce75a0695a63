/-
  free: the smallest free descriptors.
-/
import Derived.Test.YtbbgnpnopodppaaDoorWdKept
namespace Go.Proofs.YtbbgnpnopodppaaDoor
open Go.RowKit Go.Maps Go.ChangeMaps Go.Shelf

attribute [local go_sem] Oper.semAt_some

/-- While numbers are taken. -/
structure FrI (w : World) (pv : Nat → Option Addr) (need N : Nat) (pre : List Nat) (W : World) : Prop where
  col : ColR RI w (w.heap.size + 1) N pre W
  nd : Boxed W w.heap.size 3 (.int .i64 (need : Int))
  pre : ∃ R, pre ++ R = numsA pv false 96
theorem FrI.chR {w X Y : World} {pv : Nat → Option Addr} {need N M : Nat} {pre : List Nat} (h : FrI w pv need N pre X) (k : ChR M X Y) (hM : w.heap.size ≤ M) : FrI w pv need N pre Y := ⟨h.col.chR k hM, boxed_chR h.nd k, h.pre⟩
/-- What free answers. -/
def FreeOut (w : World) (pv : Nat → Option Addr) (need : Nat) (e : Ending) (w' : World) : Prop := Below w.heap.size w w' ∧
  ((need ≤ (numsA pv false 96).length ∧ ∃ v, e = .returned (.tuple #[v, .int .i64 0]) ∧ RI.own w' w.heap.size v ((numsA pv false 96).take need)) ∨ ((numsA pv false 96).length < need ∧ e = .returned (.tuple #[.slice none 0 0, .int .i64 112])))

theorem four_boxes (w : World) (t0 t1 t2 t3 : TypeId) (a0 a1 a2 a3 : Value) : ∃ V, V = (((w.alloc (.cells #[a0] t0)).alloc (.cells #[a1] t1)).alloc (.cells #[a2] t2)).alloc (.cells #[a3] t3) ∧ Kept (fun _ => False) w V ∧
    Boxed V w.heap.size t0 a0 ∧ Boxed V (w.heap.size + 1) t1 a1 ∧ Boxed V (w.heap.size + 2) t2 a2 ∧ Boxed V (w.heap.size + 3) t3 a3 ∧ V.heap.size = w.heap.size + 4 := by
  refine ⟨_, rfl, ((((Kept.refl _ w).alloc _).alloc _).alloc _).alloc _, ?_, ?_, ?_, ?_, by simp⟩
  · exact (Below.heap_alloc _ _ _ (by simp only [World.size_alloc]; omega)).trans ((Below.heap_alloc _ _ _ (by simp only [World.size_alloc]; omega)).trans ((Below.heap_alloc _ _ _ (by simp only [World.size_alloc]; omega)).trans (World.alloc_heap_new w _)))
  · have := World.alloc_heap_new (w.alloc (.cells #[a0] t0)) (.cells #[a1] t1)
    rw [World.size_alloc] at this
    exact (Below.heap_alloc _ _ _ (by simp only [World.size_alloc]; omega)).trans ((Below.heap_alloc _ _ _ (by simp only [World.size_alloc]; omega)).trans this)
  · have := World.alloc_heap_new ((w.alloc (.cells #[a0] t0)).alloc (.cells #[a1] t1)) (.cells #[a2] t2)
    rw [World.size_alloc, World.size_alloc] at this
    exact (Below.heap_alloc _ _ _ (by simp only [World.size_alloc]; omega)).trans this
  · have := World.alloc_heap_new (((w.alloc (.cells #[a0] t0)).alloc (.cells #[a1] t1)).alloc (.cells #[a2] t2)) (.cells #[a3] t3)
    rw [World.size_alloc, World.size_alloc, World.size_alloc] at this
    exact this

set_option maxRecDepth 100000 in
set_option maxHeartbeats 8000000 in
theorem free_any {w : World} {g now : Nat} {wv : Value} {pv : Nat → Option Addr} {sv nv : Value} (h : Kb w g now wv pv sv nv) (need : Nat) (hn0 : 1 ≤ need) (hn1 : need ≤ 1000) :
    Calls Tryd.prog 44 #[.pointer (some ⟨g, 0, none⟩), .int .i64 (need : Int)] w (FreeOut w pv need) := by
  have HR := Lib.hid h
  clear h
  refine (callsIn_wide (n := 4)).1 ?_
  refine callsIn_of_wp_marks Tryd.func44 rfl trivial ?_ rfl
  simp only [Tryd.ntmps44, List.size_toArray, List.length_cons, List.length_nil, Nat.reduceAdd, Nat.reduceSub, Array.replicate_succ, Array.replicate_zero, List.push_toArray, List.append_toArray, List.nil_append, List.cons_append]
  gi_wp2_with fail
  refine wpIn_wide.2 (wp_scope_straight ((wpIn_wide (n := 4)).1 ?_))
  gi_wp2
  refine wpIn_label ?_
  gi_wp2_with (refine ⟨trivial, ?_⟩; gi_at_call 53; refine (callsIn_wide.2 (numbers_call _ g false)).mono ?_; rintro e w1 ⟨rfl, rfl⟩)
  obtain ⟨V, hV, v0, v1, v2, v3, v4, v5⟩ := four_boxes w 3 67 48 4 (.int .i64 (need : Int)) (.slice none 0 0) (.pointer (some ⟨g, 0, none⟩)) (.bool false)
  rw [← hV]
  have hlt := HR.out.lt
  have hTV : Kb V g now wv pv sv nv := HR.out.same (v0.block g hlt (fun e => e))
  have hc0 : FrI w pv need V.heap.size [] V := ⟨⟨⟨_, v2, RowK.own_nil _ _⟩, v0.below (fun _ e => e.elim) (Nat.le_refl _)⟩, v1, ⟨_, rfl⟩⟩
  clear hV
  refine rangeFunc_o (n := 4) (by omega) (gf := 59) (lb := #[.pointer (some ⟨w.heap.size + 1 + 1, 0, none⟩), .pointer (some ⟨w.heap.size + 1 + 1 + 1, 0, none⟩)]) rfl (enters_of Tryd.func59 (by kernel_rfl) rfl)
    (encs := encI) TCe (fun i => i < w.heap.size ∨ i = w.heap.size + 2 ∨ i = w.heap.size + 3) (num_o 3 (by omega) false hTV _ _ v3 v4 TCe _ V.heap.size ⟨by omega, .inr (.inl rfl)⟩ ⟨by omega, .inr (.inr rfl)⟩ ⟨by omega, .inl hlt⟩) (fun _ => rfl)
    (fun pre W => FrI w pv need V.heap.size pre W ∧ pre.length < need) (fun c pre W => c = .exit 0 ∧ FrI w pv need V.heap.size pre W ∧ pre.length = need)
    (fun s X Y hi hc => ⟨hi.1.chR hc (by omega), hi.2⟩) (fun c s X Y hi hc => ⟨hi.1, hi.2.1.chR hc (by omega), hi.2.2⟩) ⟨hc0, by simp; omega⟩ ?round ?done ?stop
  case round =>
    rintro l pre x W hz ⟨hS, hpl⟩ ⟨R, hR⟩
    have HS := Lib.hid (And.intro hS (show ∃ R, (pre ++ [x]) ++ R = numsA pv false 96 from ⟨R, by rw [← hR]; simp⟩))
    clear hS hR hc0 hTV v0 v1 v2 v3 v4
    simp only [encI]
    gi_wp2_with fail
    refine ⟨KeepsFrom.refl _ _, KpO.refl _ _ _ _, fun W2 hc => ?_⟩
    have hF := HS.out.1.chR hc (by omega)
    obtain ⟨⟨v, hv, hrow⟩, hB⟩ := hF.col
    have cb := hv.cell
    have lb := hv.lt
    have cn := hF.nd.cell
    have ln := hF.nd.lt
    have hNw : V.heap.size ≤ W2.heap.size := by have := hc.size; omega
    have b3 : ∀ j, v.ownBlock = some j → V.heap.size ≤ j := fun j e => (RowK.own_lt hrow e).2
    have HB := Lib.hid (And.intro hB (And.intro hv (And.intro hrow (And.intro hF.nd b3))))
    have hplen : pre.length + 1 ≤ 1000 := by omega
    clear hB hv hrow hc b3 hF
    by_cases hlen : pre.length + 1 = need
    · have hq2 : (((pre.length : Nat) : Int) + 1 == (need : Int)) = true := by simp; omega
      have hq3 : decide ((((pre.length : Nat) : Int) + 1) = (need : Int)) = true := by simp; omega
      have HL := Lib.hid hlen
      clear hlen
      gi_wp2_with (gi_at_builtin; refine RowK.append_in (R := RI) rfl _ _ rfl V.heap.size v pre x rfl (RowK.own_same HB.out.2.2.1 fun j e => Below.heap_alloc _ _ _ (RowK.own_lt HB.out.2.2.1 e).1) rfl (fun _ => ⟨W2.heap.size, 0, rfl, by simp, RowK.lies_new (R := RI) W2 x 3⟩) (by omega) (by simp; omega) ?_; intro g' cap w1 O1 hg1; have i4 : Boxed w1 (w.heap.size + 1) 67 v := ((hg1.block _ (by simp; omega) (fun e => by have := HB.out.2.2.2.2 _ e.symm; omega)).trans (Below.heap_alloc W2 _ _ lb)).trans HB.out.2.1; have i5 : Boxed w1 w.heap.size 3 (.int .i64 (need : Int)) := ((hg1.block _ (by simp; omega) (fun e => by have := HB.out.2.2.2.2 _ e.symm; omega)).trans (Below.heap_alloc W2 _ _ ln)).trans HB.out.2.2.2.1; have d3 := i4.cell; have df := i4.frozen; have dl := i4.lt; have d5 := i5.cell; have l5 := i5.lt; have HG := Lib.hid (And.intro O1 (And.intro hg1 i5)); clear O1 hg1 i4 i5)
      obtain ⟨hB, hv, hrow, hnd, b3⟩ := HB.out
      obtain ⟨k1, k2, k3⟩ := ColR.step (Pr := fun i => i < w.heap.size ∨ i = w.heap.size + 2 ∨ i = w.heap.size + 3) hv hrow hB (by omega) (by omega) HG.out.2.1 HG.out.1 (fun i hi e => by omega)
      have hnd2 : Boxed (w1.setCell ⟨w.heap.size + 1, 0, none⟩ (.slice (some ⟨g', 0, none⟩) (pre.length + 1) cap)) w.heap.size 3 (.int .i64 (need : Int)) := (Below.heap_setCell _ _ _ _ (by show w.heap.size ≠ w.heap.size + 1; omega)).trans HG.out.2.2
      exact ⟨k2, k3, rfl, ⟨k1, hnd2, HS.out.2⟩, by simpa using HL.out⟩
    · have hq2 : (((pre.length : Nat) : Int) + 1 == (need : Int)) = false := by simp; omega
      have hq3 : decide ((((pre.length : Nat) : Int) + 1) = (need : Int)) = false := by simp; omega
      gi_wp2_with (gi_at_builtin; refine RowK.append_in (R := RI) rfl _ _ rfl V.heap.size v pre x rfl (RowK.own_same HB.out.2.2.1 fun j e => Below.heap_alloc _ _ _ (RowK.own_lt HB.out.2.2.1 e).1) rfl (fun _ => ⟨W2.heap.size, 0, rfl, by simp, RowK.lies_new (R := RI) W2 x 3⟩) (by omega) (by simp; omega) ?_; intro g' cap w1 O1 hg1; have i4 : Boxed w1 (w.heap.size + 1) 67 v := ((hg1.block _ (by simp; omega) (fun e => by have := HB.out.2.2.2.2 _ e.symm; omega)).trans (Below.heap_alloc W2 _ _ lb)).trans HB.out.2.1; have i5 : Boxed w1 w.heap.size 3 (.int .i64 (need : Int)) := ((hg1.block _ (by simp; omega) (fun e => by have := HB.out.2.2.2.2 _ e.symm; omega)).trans (Below.heap_alloc W2 _ _ ln)).trans HB.out.2.2.2.1; have d3 := i4.cell; have df := i4.frozen; have dl := i4.lt; have d5 := i5.cell; have l5 := i5.lt; have HG := Lib.hid (And.intro O1 (And.intro hg1 i5)); clear O1 hg1 i4 i5)
      obtain ⟨hB, hv, hrow, hnd, b3⟩ := HB.out
      obtain ⟨k1, k2, k3⟩ := ColR.step (Pr := fun i => i < w.heap.size ∨ i = w.heap.size + 2 ∨ i = w.heap.size + 3) hv hrow hB (by omega) (by omega) HG.out.2.1 HG.out.1 (fun i hi e => by omega)
      have hnd2 : Boxed (w1.setCell ⟨w.heap.size + 1, 0, none⟩ (.slice (some ⟨g', 0, none⟩) (pre.length + 1) cap)) w.heap.size 3 (.int .i64 (need : Int)) := (Below.heap_setCell _ _ _ _ (by show w.heap.size ≠ w.heap.size + 1; omega)).trans HG.out.2.2
      exact ⟨k2, k3, ⟨k1, hnd2, HS.out.2⟩, by simp; omega⟩
  case done =>
    rintro xs W rfl ⟨hS, hlen⟩ hD hz
    obtain ⟨⟨v, hv, hrow⟩, hB⟩ := hS.col
    obtain ⟨A, c, rfl, _⟩ := RowK.own_shows hrow
    obtain ⟨L, hL⟩ : ∃ L, L = (numsA pv false 96).length := ⟨_, rfl⟩
    rw [← hL] at hv hrow hlen
    have cb := hv.cell
    have lb := hv.lt
    have cn := hS.nd.cell
    have ln := hS.nd.lt
    have q1 : decide ((L : Int) < (need : Int)) = true := by simpa using hlen
    have q2 : (L : Int) < (need : Int) := by omega
    have HE := Lib.hid (And.intro hB (And.intro (hL ▸ hlen) hD))
    clear hv hrow hB hc0 hTV v0 v1 v2 v3 v4 hS hL hD
    gi_wp2_with fail
    rw [Exit.noGoto_ret]
    exact leaves_marks (w.heap.size + 1) [V.heap.size] W (by simp) (fun D hD' => by simp at hD'; subst hD'; exact ⟨by omega, HE.out.2.2⟩) (fun W' hc => ⟨_, results_tmp2 rfl _ _ _, below_chR HE.out.1 hc.toR (by omega), .inr ⟨HE.out.2.1, rfl⟩⟩)
  case stop =>
    rintro c pre W hp ⟨rfl, hS, hlen⟩ hD hz
    obtain ⟨⟨v, hv, hrow⟩, hB⟩ := hS.col
    obtain ⟨A, c, rfl, _⟩ := RowK.own_shows hrow
    obtain ⟨R, hR⟩ := hS.pre
    have HE := Lib.hid (show Below w.heap.size w W ∧ need ≤ (numsA pv false 96).length ∧ RI.own W V.heap.size (.slice A pre.length c) ((numsA pv false 96).take need) ∧ W.heap[V.heap.size]? = some (.deferred (some [])) from
      ⟨hB, by rw [← hR, List.length_append]; omega, by rw [← hR, ← hlen, List.take_left]; exact hrow, hD⟩)
    have cb := hv.cell
    have lb := hv.lt
    have cn := hS.nd.cell
    have ln := hS.nd.lt
    rw [hlen] at cb HE
    clear hv hrow hB hc0 hTV v0 v1 v2 v3 v4 hS hD hR hlen
    gi_wp2_with fail
    rw [Exit.noGoto_ret]
    exact leaves_marks (w.heap.size + 1) [V.heap.size] W (by simp) (fun D hD' => by simp at hD'; subst hD'; exact ⟨by omega, HE.out.2.2.2⟩) (fun W' hc => ⟨_, results_tmp2 rfl _ _ _, below_chR HE.out.1 hc.toR (by omega), .inl ⟨HE.out.2.1, _, rfl, RowK.own_more (RowK.own_chR HE.out.2.2.1 hc.toR) (by omega)⟩⟩)
end Go.Proofs.YtbbgnpnopodppaaDoor
