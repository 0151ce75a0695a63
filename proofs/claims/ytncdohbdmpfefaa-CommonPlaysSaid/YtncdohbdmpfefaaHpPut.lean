/-
  queue.put: an item laid at its place, and the place noted.
-/
import Derived.Test.YtncdohbdmpfefaaHpMem
import Derived.StillTailTactics
import Derived.OwnWalk
import Derived.Outline
namespace Go.Proofs.Ytncdohbdmpfefaa
open Go.RowKit Go.Maps Go.ChangeMaps

/-- A region whose operations but the last only read: walked in the text's order, then the last. -/
theorem wp_still_tail {P : Program} {id : Nat} {Q : Exit → Act → World → Prop} {a : Act} {w : World} {l : List Oper} (n : Nat) (hm : P.follows .mixedOrders = true) (hB : Region.lexTailB .any l.toArray n = true)
    (h : wpStill P l.toArray w.drew (fun a' => wpList P l.toArray Q (l.drop n) a' w.drew) (l.take n) a) : (Code.region id l.toArray true).wp P Q a w := wp_region_still_tail n hm hB h

/-- The three stores of an item into the row. -/
def setIt (w : World) (g i : Nat) (x : It) : World := ((w.setCell ⟨g, i * 3, none⟩ (.int .i64 x.id)).setCell ⟨g, i * 3 + 1, none⟩ (.int .u64 x.d)).setCell ⟨g, i * 3 + 2, none⟩ (.int .u64 x.n)
theorem setIt_other (w : World) (g i : Nat) (x : It) {k : Nat} (hk : k ≠ g) : (setIt w g i x).heap[k]? = w.heap[k]? := by
  unfold setIt
  rw [Below.heap_setCell _ _ _ _ hk, Below.heap_setCell _ _ _ _ hk, Below.heap_setCell _ _ _ _ hk]
theorem setIt_size (w : World) (g i : Nat) (x : It) : (setIt w g i x).heap.size = w.heap.size := by simp [setIt, World.setCell]
theorem Kept.setIt {F : Nat → Prop} {a w : World} (h : Kept F a w) (g i : Nat) (x : It) (hg : F g) : Kept F a (setIt w g i x) :=
  ((h.setCell (p := ⟨g, i * 3, none⟩) hg _).setCell (p := ⟨g, i * 3 + 1, none⟩) hg _).setCell (p := ⟨g, i * 3 + 2, none⟩) hg _
theorem Qst.stored {w : World} {B q m N g n cap : Nat} {P : List It} {f : Int → Option Nat} (h : Qst w B q m (.slice (some ⟨g, 0, none⟩) n cap) P f N) (i : Nat) (x : It) (hi : i < P.length) (hx : x.Ok) :
    Qst (setIt w g i x) B q m (.slice (some ⟨g, 0, none⟩) n cap) (P.set i x) f N := by
  obtain ⟨n1, n2, n3⟩ := h.ne
  have hr := h.row
  have hn : n = P.length := by
    rcases hr.2 with ⟨e, _⟩ | ⟨g', cap', cur, e, _⟩
    · cases e
    · injection e
  subst hn
  have hgq : q ≠ g := fun e => n2 (by rw [e]; rfl)
  have hgm : m ≠ g := fun e => n3 (by rw [e]; rfl)
  refine ⟨h.blk.same (setIt_other _ _ _ _ hgq), ?_, h.pm.same (setIt_other _ _ _ _ hgm), h.hq, h.hm, by rw [setIt_size]; exact h.hB, fun y hy => ?_, by simpa using h.len⟩
  · have r := (((hr.stored (i * 3) (.int .i64 x.id)).1.stored (i * 3 + 1) (.int .u64 x.d)).1.stored (i * 3 + 2) (.int .u64 x.n)).1
    rw [enc_set P i x hi] at r
    simpa [setIt] using r
  · rcases List.mem_or_eq_of_mem_set hy with hy | rfl
    · exact h.ok y hy
    · exact hx

theorem wfI {a : Int} (h : -9223372036854775808 ≤ a ∧ a ≤ 9223372036854775807) : (Lit.int .i64 a).wf = true := by
  simp [Lit.wf, IntKind.min, IntKind.max, IntKind.signed, IntKind.bits]; omega
theorem isKeyI {a : Int} : WideAt.IsKeyLit (.int .i64 a) := trivial

set_option maxHeartbeats 2000000 in
set_option maxRecDepth 100000 in
theorem put_any (w : World) (B q m N : Nat) (v : Value) (P : List It) (f : Int → Option Nat) (h : Qst w B q m v P f N) (i : Nat) (x : It) (hi : i < P.length) (hx : x.Ok) (hN : N ≤ 100000) (N' : Nat) (hN' : N + (if (f x.id).isSome then 0 else 1) ≤ N') :
    Calls Try.prog 75 #[.pointer (some ⟨q, 0, none⟩), .int .i64 (i : Int), .agg #[.int .i64 x.id, .int .u64 x.d, .int .u64 x.n]] w fun e w' =>
      e = .returned (.tuple #[]) ∧ Qst w' B q m v (P.set i x) (updF f x.id (some i)) N' ∧ Kept (fun k => k = m ∨ v.ownBlock = some k) w w' := by
  have HN' := Lib.hid hN'
  clear hN'
  obtain ⟨g, cap, rfl, hc, hgl, hgB, hfz, hcell⟩ := h.form (by omega)
  have ql := h.blk.lt
  have c0 := h.blk.cell 0
  have c1 := h.blk.cell 1
  simp at c0 c1
  have b0 : (0 : Int) ≤ (i : Int) := by omega
  have b1 : (i : Int) < (P.length : Int) := by omega
  have h1 := h.stored i x hi hx
  have k1 : Kept (fun k => k = m ∨ (Value.slice (some ⟨g, 0, none⟩) P.length cap).ownBlock = some k) w (setIt w g i x) := (Kept.refl _ w).setIt g i x (.inr rfl)
  have hsz : (setIt w g i x).heap.size = w.heap.size := setIt_size _ _ _ _
  obtain ⟨W0, hW0⟩ : ∃ W0, W0 = setIt w g i x := ⟨_, rfl⟩
  rw [← hW0] at h1 k1 hsz
  unfold setIt at hW0
  obtain ⟨xi, xd, xn⟩ := x
  dsimp only at hW0 HN' ⊢
  have HW := Lib.hid hW0
  clear hW0
  have HZ := Lib.hid hsz
  clear hsz
  have ql1 := h1.blk.lt
  have d1 := h1.blk.cell 1
  simp at d1
  go_enter Try.func75, Try.ntmps75
  go_wp2_with fail
  refine wp_still_tail 7 (by kernel_rfl) (by kernel_rfl) ?_
  simp only [List.take_succ_cons, List.take_zero, List.drop_succ_cons, List.drop_zero]
  repeat still_step
  refine wpStill_nil ?_
  go_wp2_with fail
  rw [← HW.out, ← HZ.out]
  clear c0 c1 hcell hfz
  refine wp_still_tail 7 (by kernel_rfl) (by kernel_rfl) ?_
  simp only [List.take_succ_cons, List.take_zero, List.drop_succ_cons, List.drop_zero]
  repeat still_step
  refine wpStill_nil ?_
  obtain ⟨D, hD, hf⟩ := h1.pm
  go_wp2_with (at_mapUpdate; refine wpList_mapUpdate_own _ rfl _ _ _ 88 rfl 3 3 keyInt Try.underlying88 _ m N D rfl ((hD.alloc _).drew.drew) (by unfold maxLen; omega) _ _ _ rfl rfl (keyOf_int_mk Try.underlying3 (wfI hx.1)) _ [] (plainElem_int Try.underlying3 (wfI (by have := h.len; omega))) ?_; intro w1 hown1 hgrow1)
  go_end0
  have hk : Kept (fun k => k = m) W0 w1 := ((((Kept.refl _ W0).alloc _).drew).drew).grown hgrow1 (fun k e _ => by cases e; rfl)
  obtain ⟨n1, n2, n3⟩ := h1.ne
  have hownF := (own_tight hown1).2.mono (n' := N') (by
    rw [size_put (hD.tidy keyInt), (hf xi).1]
    have hN2 := HN'.out
    have hs := (own_tight hD).1
    revert hN2
    by_cases e : (f xi).isSome = true
    · rw [if_pos e, if_pos e]; omega
    · rw [if_neg e, if_neg e]; omega)
  refine ⟨rfl, ⟨h1.blk.kept hk n1, own_same h1.row (fun k e => hk.block k (own_lt h1.row e).1 (fun e' => n3 (e' ▸ e))), ⟨_, hownF, Pm.upd hD.isMap hf xi i trivial⟩, h1.hq, h1.hm, Nat.le_trans h1.hB hk.size, h1.ok, h1.len⟩, k1.trans (hk.mono fun k _ e => .inl e)⟩
end Go.Proofs.Ytncdohbdmpfefaa
