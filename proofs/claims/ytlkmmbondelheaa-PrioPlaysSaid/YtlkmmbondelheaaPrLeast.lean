/-
  Least: the most urgent priority that has an item.
-/
import Derived.Test.YtlkmmbondelheaaPrListC
namespace Go.Proofs.Ytlkmmbondelheaa
open Go.RowKit Go.Maps Go.ChangeMaps Go.Shelf

attribute [local go_sem] Oper.semAt_some

theorem byP_mem {L : List It} {k : Nat} {x : It} : x ∈ byP L k ↔ x ∈ L ∧ x.pr < k := by
  simp only [byP, List.mem_flatMap, List.mem_range, ofP_mem]
  exact ⟨fun ⟨i, h1, h2, h3⟩ => ⟨h2, by omega⟩, fun ⟨h1, h2⟩ => ⟨_, h2, h1, rfl⟩⟩
theorem byP_nil {L : List It} {many : Nat} (h : ∀ x ∈ L, x.pr < many) (hn : byP L many = []) : L = [] := by
  cases L with
  | nil => rfl
  | cons x L =>
    have : x ∈ byP (x :: L) many := byP_mem.2 ⟨by simp, h x (by simp)⟩
    rw [hn] at this; simp at this
/-- The first priority that has an item. -/
theorem byP_first (L : List It) : ∀ (k : Nat), byP L k = [] ∨ ∃ p R, p < k ∧ byP L k = ofP L p ++ R ∧ ofP L p ≠ [] ∧ ∀ q, q < p → ofP L q = []
  | 0 => .inl rfl
  | k + 1 => by
    rw [byP_succ]
    rcases byP_first L k with h | ⟨p, R, h1, h2, h3, h4⟩
    · rw [h, List.nil_append]
      by_cases e : ofP L k = []
      · exact .inl e
      · refine .inr ⟨k, [], by omega, by simp, e, fun q hq => ?_⟩
        apply List.eq_nil_iff_forall_not_mem.2
        intro y hy
        have : y ∈ byP L k := byP_mem.2 ⟨(ofP_mem.1 hy).1, by have := (ofP_mem.1 hy).2; omega⟩
        rw [h] at this; simp at this
    · exact .inr ⟨p, R ++ ofP L k, by omega, by rw [h2]; simp, h3, h4⟩
theorem least_first {L : List It} {p : Nat} (h3 : ofP L p ≠ []) (h4 : ∀ q, q < p → ofP L q = []) : leastL L = some p := by
  obtain ⟨y, hy⟩ := List.exists_mem_of_ne_nil _ h3
  obtain ⟨y1, y2⟩ := ofP_mem.1 hy
  refine least_of ⟨y, y1, y2⟩ fun z hz => ?_
  by_cases e : z.pr < p
  · have := h4 _ e
    have hm : z ∈ ofP L z.pr := ofP_mem.2 ⟨hz, rfl⟩
    rw [this] at hm; simp at hm
  · omega
theorem byP_head {L R : List It} {x : It} {k : Nat} (h : byP L k = x :: R) : leastL L = some x.pr := by
  rcases byP_first L k with e | ⟨p, R', h1, h2, h3, h4⟩
  · rw [e] at h; cases h
  · have hx : x.pr = p := by
      cases ho : ofP L p with
      | nil => exact absurd ho h3
      | cons y O =>
        rw [h, ho] at h2
        injection h2 with h2 _
        have : y ∈ ofP L p := by rw [ho]; simp
        rw [h2]; exact (ofP_mem.1 this).2
    rw [hx]
    exact least_first h3 h4

structure LeI (w : World) (bL : Nat) (c : Int) (W : World) : Prop where
  box : Boxed W bL 3 (.int .i64 c)
  bel : Below w.heap.size w W
theorem Below.chR {w X Y : World} {N : Nat} (h : Below w.heap.size w X) (hc : ChR N X Y) (hN : w.heap.size ≤ N) : Below w.heap.size w Y :=
  ⟨hc.os.trans h.os, hc.tape.trans h.tape, hc.output.trans h.output, Nat.le_trans h.size hc.size, fun k hk => (hc.low k (by omega) (Nat.lt_of_lt_of_le hk h.size)).trans (h.block k hk)⟩
theorem LeI.stab {w : World} {bL N : Nat} {c : Int} {X Y : World} (h : LeI w bL c X) (hc : ChR N X Y) (hN : w.heap.size ≤ N) : LeI w bL c Y := ⟨hc.cells _ _ h.box rfl, Below.chR h.bel hc hN⟩

def Told (w : World) (v : Value) (e : Ending) (w' : World) : Prop := e = .returned v ∧ Below w.heap.size w w'

set_option maxRecDepth 100000 in
set_option maxHeartbeats 8000000 in
theorem least_any {w : World} {B h many : Nat} {Own : Nat → Prop} {L : List It} (H : Qu w B h Own many L) : Calls Try.prog 22 #[.pointer (some ⟨h, 0, none⟩)] w (Told w (.int .i64 (leastI L))) := by
  obtain ⟨r, g, m, F, G, h1, h2, h3, h4, h5⟩ := H
  have c0 := h1.cell 0
  simp at c0
  have lh := h1.lt
  have hM := Lib.hid (fun o => made_yes (w.alloc o) h r (by have := (h1.alloc o).cell 0; simpa using this))
  have HR := Lib.hid (And.intro h2 (fun k hk => h2.lt (k := k) hk))
  clear h1 h2 h3 h4 h5
  refine (callsIn_wide (n := 9)).1 ?_
  refine callsIn_of_wp_marks Try.func22 rfl trivial ?_ rfl
  simp only [Try.ntmps22, List.size_toArray, List.length_cons, List.length_nil, Nat.reduceAdd, Nat.reduceSub, Array.replicate_succ, Array.replicate_zero, List.push_toArray, List.append_toArray, List.nil_append, List.cons_append]
  gi_wp2_with (first
    | (refine ⟨trivial, ?_⟩; gi_at_call 29; refine (callsIn_wide.2 (hM.out _)).mono ?_; rintro e w' ⟨rfl, rfl⟩)
    | (refine ⟨trivial, ?_⟩; gi_at_call 37; refine (callsIn_wide.2 (items_call _ r)).mono ?_; rintro e w1 ⟨rfl, rfl⟩))
  obtain ⟨V, hV⟩ : ∃ V, V = (w.alloc (.cells #[.int .i64 0] 3)).alloc (.cells #[.pointer (some ⟨r, 0, none⟩)] 62) := ⟨_, rfl⟩
  have v0 : Kept (fun _ => False) w V := by rw [hV]; exact ((Kept.refl _ w).alloc _).alloc _
  have v1 : Boxed V w.heap.size 3 (.int .i64 0) := by rw [hV]; exact (Below.heap_alloc _ _ _ (by simp)).trans (World.alloc_heap_new w _)
  have v2 : Boxed V (w.heap.size + 1) 62 (.pointer (some ⟨r, 0, none⟩)) := by
    rw [hV]
    have := World.alloc_heap_new (w.alloc (.cells #[.int .i64 0] 3)) (.cells #[.pointer (some ⟨r, 0, none⟩)] 62)
    rw [World.size_alloc] at this
    exact this
  have v4 : V.heap.size = w.heap.size + 2 := by rw [hV]; simp
  rw [← hV]
  obtain ⟨hR, hlt⟩ := HR.out
  have hRV : Rw V r g m many F G L := hR.same (fun k hk => v0.block k (hlt k hk) (fun e => e))
  have hle : LeI w w.heap.size 0 V := ⟨v1, v0.below (fun _ e => e.elim) (Nat.le_refl _)⟩
  clear hV
  refine rangeFunc_o (n := 9) (by omega) (gf := 41) (lb := #[.pointer (some ⟨w.heap.size + 1, 0, none⟩)]) rfl (enters_of Try.func41 (by kernel_rfl) rfl)
    (encs := encJ) TI (fun i => i < w.heap.size ∨ i = w.heap.size + 1) (items_o 8 (by omega) hRV _ v2 TI _ V.heap.size ⟨by omega, .inr rfl⟩ TI_cells TI_t (fun i hi => by have := hlt i hi; exact ⟨by omega, .inl this⟩)) (fun _ => rfl)
    (fun pre W => pre = [] ∧ LeI w w.heap.size 0 W) (fun c pre W => c = .ret ∧ ∃ x R, byP L many = x :: R ∧ LeI w w.heap.size x.pr W)
    (fun s X Y hi hc => ⟨hi.1, hi.2.stab hc (by omega)⟩) (fun c s X Y hi hc => by obtain ⟨e, x, R, h1, h2⟩ := hi; exact ⟨e, x, R, h1, h2.stab hc (by omega)⟩) ⟨rfl, hle⟩ ?round ?done ?stop
  case round =>
    rintro l pre x W hz ⟨rfl, hS⟩ ⟨R, hR1⟩
    have HS := Lib.hid (And.intro hS hR1)
    clear hS hR1 hle hRV hR hlt v0 v1 v2 c0 lh
    simp only [encJ]
    gi_wp2_with fail
    refine ⟨KeepsFrom.refl _ _, KpO.refl _ _ _ _, fun W2 hc => ?_⟩
    have hS2 := HS.out.1.stab hc (by omega)
    have cv := hS2.box.cell
    have lv := hS2.box.lt
    have fv := hS2.box.frozen
    have hb := hS2.box
    have kk : Kept (fun k => k = w.heap.size) W2 (W2.setCell ⟨w.heap.size, 0, none⟩ (.int .i64 (x.pr : Int))) := (Kept.refl (fun k => k = w.heap.size) W2).setCell (p := ⟨w.heap.size, 0, none⟩) rfl _
    have f1 : KeepsFrom V.heap.size W2 (W2.setCell ⟨w.heap.size, 0, none⟩ (.int .i64 (x.pr : Int))) := KeepsFrom.of_kept kk (fun k o hk _ e => by omega)
    have f2 : KpO TI V.heap.size (fun i => i < w.heap.size ∨ i = w.heap.size + 1) W2 (W2.setCell ⟨w.heap.size, 0, none⟩ (.int .i64 (x.pr : Int))) := KpO.of_kept kk (fun k _ e => ⟨fun _ hp => by omega, fun hk => by omega⟩)
    have f3 : LeI w w.heap.size x.pr (W2.setCell ⟨w.heap.size, 0, none⟩ (.int .i64 (x.pr : Int))) := by
      refine ⟨?_, hS2.bel.trans (kk.below (fun k e => by omega) hS2.bel.size)⟩
      have hb1 : Blk W2 w.heap.size 3 #[.int .i64 0] := hb
      have := hb1.set_ 0 (.int .i64 (x.pr : Int))
      simpa [Boxed, Blk] using this
    have HE := Lib.hid (And.intro f1 (And.intro f2 f3))
    clear f1 f2 f3 kk hb hS2 hc
    gi_wp2_with fail
    exact ⟨HE.out.1, HE.out.2.1, rfl, x, R, by rw [← HS.out.2]; rfl, HE.out.2.2⟩
  case done =>
    rintro xs W rfl ⟨hx, hS⟩ hD hz
    have hL : L = [] := byP_nil (fun x hx => (hR.ok x hx).pr) hx
    have cv := hS.box.cell
    have lv := hS.box.lt
    have fv := hS.box.frozen
    have hb := hS.box
    have kk : Kept (fun k => k = w.heap.size) W (W.setCell ⟨w.heap.size, 0, none⟩ (.int .i64 (-1))) := (Kept.refl (fun k => k = w.heap.size) W).setCell (p := ⟨w.heap.size, 0, none⟩) rfl _
    have f3 : LeI w w.heap.size (-1) (W.setCell ⟨w.heap.size, 0, none⟩ (.int .i64 (-1))) := by
      refine ⟨?_, hS.bel.trans (kk.below (fun k e => by omega) hS.bel.size)⟩
      have hb1 : Blk W w.heap.size 3 #[.int .i64 0] := hb
      have := hb1.set_ 0 (.int .i64 (-1))
      simpa [Boxed, Blk] using this
    have hD2 : (W.setCell ⟨w.heap.size, 0, none⟩ (.int .i64 (-1))).heap[V.heap.size]? = some (.deferred (some [])) := (Below.heap_setCell _ _ _ _ (by show V.heap.size ≠ w.heap.size; omega)).trans hD
    have HE := Lib.hid (And.intro f3 (And.intro hD2 hL))
    clear f3 kk hb hS hle hRV hR hlt v0 v1 v2 c0 lh hD hD2 hL hx
    gi_wp2_with fail
    obtain ⟨f3, hD2, hL⟩ := HE.out
    refine leaves_marks w.heap.size [V.heap.size] _ (by simp) (fun D hD' => by simp at hD'; subst hD'; exact ⟨by omega, hD2⟩) (fun W' hc => ?_)
    have h5 := f3.stab hc.toR (Nat.le_refl _)
    have hc5 := h5.box.cell
    have hl5 := h5.box.lt
    exact ⟨.int .i64 (-1), by simp [results, Try.results22, go_sem, hc5, hl5], by unfold leastI; rw [hL]; rfl, h5.bel⟩
  case stop =>
    rintro c pre W hp ⟨rfl, x, R, hx, hS⟩ hD hz
    have HE := Lib.hid (And.intro hS (And.intro hD hx))
    clear hS hD hx hle hRV hR hlt v0 v1 v2 c0 lh
    gi_wp2_with fail
    obtain ⟨f3, hD2, hx⟩ := HE.out
    refine leaves_marks w.heap.size [V.heap.size] _ (by simp) (fun D hD' => by simp at hD'; subst hD'; exact ⟨by omega, hD2⟩) (fun W' hc => ?_)
    have h5 := f3.stab hc.toR (Nat.le_refl _)
    have hc5 := h5.box.cell
    have hl5 := h5.box.lt
    exact ⟨.int .i64 (x.pr : Int), by simp [results, Try.results22, go_sem, hc5, hl5], by unfold leastI; rw [byP_head hx], h5.bel⟩
end Go.Proofs.Ytlkmmbondelheaa
