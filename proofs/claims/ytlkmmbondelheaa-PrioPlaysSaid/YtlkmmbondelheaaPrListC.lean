/-
  List: its contract.
-/
import Derived.Test.YtlkmmbondelheaaPrList2
namespace Go.Proofs.Ytlkmmbondelheaa
open Go.RowKit Go.Maps Go.ChangeMaps Go.Shelf

attribute [local go_sem] Oper.semAt_some

theorem list_no {w : World} {B h many : Nat} {Own : Nat → Prop} {L : List It} (H : Qu w B h Own many L) (p : Int) (h1 : p < 0 ∨ (many : Int) ≤ p) : Calls Try.prog 25 #[.pointer (some ⟨h, 0, none⟩), .int .i64 p] w fun e w' => e = .returned (.slice none 0 0) ∧ w = w' := by
  have hH := Lib.hid (has_no H p h1)
  clear H h1
  refine (callsIn_wide (n := 4)).1 ?_
  refine callsIn_of_wp_marks Try.func25 rfl trivial ?_ rfl
  simp only [Try.ntmps25, List.size_toArray, List.length_cons, List.length_nil, Nat.reduceAdd, Nat.reduceSub, Array.replicate_succ, Array.replicate_zero, List.push_toArray, List.append_toArray, List.nil_append, List.cons_append]
  gi_wp2_with (refine ⟨trivial, ?_⟩; gi_at_call 30; refine (callsIn_wide.2 hH.out).mono ?_; rintro e w' ⟨rfl, rfl⟩)
  exact ⟨_, results_tmp rfl _ _ _, rfl, rfl⟩

set_option maxRecDepth 100000 in
set_option maxHeartbeats 8000000 in
theorem list_yes {w : World} {B h many : Nat} {Own : Nat → Prop} {L : List It} (H : Qu w B h Own many L) (p : Nat) (hp : p < many) : Calls Try.prog 25 #[.pointer (some ⟨h, 0, none⟩), .int .i64 (p : Int)] w (Listed w (ofP L p)) := by
  have hH := Lib.hid (has_yes H (p : Int) (by omega) (by omega))
  obtain ⟨r, g, m, F, G, h1, h2, h3, h4, h5⟩ := H
  have c0 := h1.cell 0
  simp at c0
  have lh := h1.lt
  have HR := Lib.hid (And.intro h2 (fun k hk => h2.lt (k := k) hk))
  clear h1 h2 h3 h4 h5
  refine (callsIn_wide (n := 4)).1 ?_
  refine callsIn_of_wp_marks Try.func25 rfl trivial ?_ rfl
  simp only [Try.ntmps25, List.size_toArray, List.length_cons, List.length_nil, Nat.reduceAdd, Nat.reduceSub, Array.replicate_succ, Array.replicate_zero, List.push_toArray, List.append_toArray, List.nil_append, List.cons_append]
  gi_wp2_with (first
    | (refine ⟨trivial, ?_⟩; gi_at_call 30; refine (callsIn_wide.2 hH.out).mono ?_; rintro e w' ⟨rfl, rfl⟩)
    | (refine ⟨trivial, ?_⟩; gi_at_call 38; refine (callsIn_wide.2 (row_call _ r (p : Int))).mono ?_; rintro e w1 ⟨rfl, rfl⟩))
  obtain ⟨i0, hi, hz0, hz1, hz2⟩ := info_parts infoIt
  obtain ⟨V, hV⟩ : ∃ V, V = ((w.alloc (.cells #[.slice none 0 0] 39)).alloc (.cells #[.pointer (some ⟨r, 0, none⟩)] 62)).alloc (.cells #[.int .i64 (p : Int)] 3) := ⟨_, rfl⟩
  have v0 : Kept (fun _ => False) w V := by rw [hV]; exact (((Kept.refl _ w).alloc _).alloc _).alloc _
  have v1 : Boxed V w.heap.size 39 (.slice none 0 0) := by rw [hV]; exact (Below.heap_alloc _ _ _ (by simp; omega)).trans ((Below.heap_alloc _ _ _ (by simp)).trans (World.alloc_heap_new w _))
  have v2 : Boxed V (w.heap.size + 1) 62 (.pointer (some ⟨r, 0, none⟩)) := by
    rw [hV]
    have := World.alloc_heap_new (w.alloc (.cells #[.slice none 0 0] 39)) (.cells #[.pointer (some ⟨r, 0, none⟩)] 62)
    rw [World.size_alloc] at this
    exact (Below.heap_alloc _ _ _ (by simp)).trans this
  have v3 : Boxed V (w.heap.size + 1 + 1) 3 (.int .i64 (p : Int)) := by
    rw [hV]
    have := World.alloc_heap_new ((w.alloc (.cells #[.slice none 0 0] 39)).alloc (.cells #[.pointer (some ⟨r, 0, none⟩)] 62)) (.cells #[.int .i64 (p : Int)] 3)
    rw [World.size_alloc, World.size_alloc] at this
    exact this
  have v4 : V.heap.size = w.heap.size + 3 := by rw [hV]; simp
  rw [← hV]
  obtain ⟨hR, hlt⟩ := HR.out
  have hRV : Rw V r g m many F G L := hR.same (fun k hk => v0.block k (hlt k hk) (fun e => e))
  have hcol : ColI w w.heap.size [] V := ⟨⟨_, v1, World.ownsRow_nil _ _ _ _⟩, v0.below (fun _ e => e.elim) (Nat.le_refl _)⟩
  have hlen : (ofP L p).length ≤ 100000 := Nat.le_trans (List.length_filter_le _ _) hR.len
  clear hV
  refine rangeFunc_o (n := 4) (by omega) (gf := 42) (lb := #[.pointer (some ⟨w.heap.size + 1, 0, none⟩), .pointer (some ⟨w.heap.size + 1 + 1, 0, none⟩)]) rfl (enters_of Try.func42 (by kernel_rfl) rfl)
    (encs := encI) TI (fun i => i < w.heap.size) (row_o 3 (by omega) hRV p hp _ _ v2 v3 TI _ V.heap.size ⟨by omega, by omega, by have := hlt r (.inl rfl); omega⟩ (fun i hi => by have := hlt i (.inr (.inr hi)); exact ⟨by omega, this⟩)) (fun _ => rfl)
    (fun pre W => ColI w w.heap.size pre W) (fun _ _ _ => False)
    (fun s X Y hi hc => hi.stab hc (by omega)) (fun _ _ _ _ hi _ => hi.elim) hcol ?round ?done (fun _ _ _ _ hi _ _ => hi.elim)
  case round =>
    rintro l pre x W hz hS ⟨R, hlen2⟩
    have HS := Lib.hid hS
    have hpl : pre.length < 100000 := by rw [← hlen2] at hlen; simp at hlen; omega
    clear hS hlen2 hlen hcol hRV hR hlt v0 v1 v2 v3 c0 lh
    simp only [encI]
    gi_wp2_with fail
    have ka : Kept (fun _ => False) W (W.alloc (.cells #[.int .i64 x.id, .int .i64 x.fl, .int .i64 x.ct] 44)) := (Kept.refl _ W).alloc _
    refine ⟨KeepsFrom.of_kept ka (fun _ _ _ _ e => e.elim), KpO.of_kept ka (fun _ _ e => e.elim), fun W2 hc => ?_⟩
    have hS2 := (HS.out.kept ka).stab hc (by omega)
    have hx2 : Blk W2 W.heap.size 44 #[.int .i64 x.id, .int .i64 x.fl, .int .i64 x.ct] := hc.cells _ _ (World.alloc_heap_new W _) rfl
    have y0 := hx2.cell 0
    have y1 := hx2.cell 1
    have y2 := hx2.cell 2
    simp at y0 y1 y2
    have ly := hx2.lt
    obtain ⟨⟨v, hv, hrow⟩, hB⟩ := hS2
    have cv := hv.cell
    have lv := hv.lt
    have HB := Lib.hid (And.intro hB hv)
    have HRow := Lib.hid hrow
    clear hB hv hrow ka hc hx2
    gi_wp2_with (gi_at_builtin; refine wpListIn_append_own _ rfl _ _ 39 rfl w.heap.size 44 i0 _ 3 24 Try.underlying39 hi hz0 hz1 hz2 rfl (by decide) _ _ _ rfl (World.ownsRow.alloc HRow.out _) ⟨W2.heap.size, 0, none⟩ 1 1 [.int .i64 x.id, .int .i64 x.fl, .int .i64 x.ct] rfl rfl (World.news_of_block (cs := #[.int .i64 x.id, .int .i64 x.fl, .int .i64 x.ct]) (heap_alloc_new W2 _)) (by simp [Value.oneCell']) (by unfold maxLen; omega) (by omega) (by have := HB.out.1.size; simp; omega) ?_; intro v' w1 hown' hgrow _; obtain ⟨g', cap', rfl⟩ := ownsRow_succ hown'; obtain ⟨hv1, hm1, hm2, hm3⟩ := ColI.more (N := V.heap.size) (Pr := fun i => i < w.heap.size) HB.out.1 ⟨Nat.le_refl _, by omega⟩ (fun i hi => .inl hi) HB.out.2 HRow.out hown' hgrow; have hc1 := hv1.cell; have hf1 := hv1.frozen; have HE := Lib.hid (And.intro hm1 (And.intro hm2 hm3)); clear hv1 hm1 hm2 hm3 hown' hgrow)
    exact ⟨HE.out.2.1, HE.out.2.2, HE.out.1⟩
  case done =>
    rintro xs W rfl hS hD hz
    obtain ⟨⟨v, hv, hrow⟩, hB⟩ := hS
    have cv := hv.cell
    have lv := hv.lt
    have HE := Lib.hid (show ∀ W', ChO (w.heap.size + 1) W W' → OwnI W' w.heap.size v (ofP L p) ∧ Below w.heap.size w W' from fun W' hc => by
      have h := (ColI.mk ⟨v, hv, hrow⟩ hB : ColI w w.heap.size (ofP L p) W).stab hc.toR (by omega)
      refine ⟨own_same hrow fun k hk => ?_, h.bel⟩
      obtain ⟨_, _, cs, mk, e⟩ := own_lt hrow hk
      rw [e]
      exact hc.cells _ _ e rfl)
    clear hv hrow hB hcol hRV hR hlt v0 v1 v2 v3 c0 lh
    gi_wp2_with fail
    exact leaves_marks (w.heap.size + 1) [V.heap.size] W (by simp) (fun D hD' => by simp at hD'; subst hD'; exact ⟨by omega, hD⟩) (fun W' hc => ⟨_, results_tmp rfl _ _ _, v, rfl, HE.out W' hc⟩)
end Go.Proofs.Ytlkmmbondelheaa
