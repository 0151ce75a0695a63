/-
  A ring and the reference's ring beside each other, and what a law has of its own.
-/
import Derived.Test.YtolkbelfcgamiaaRgRef2
import Derived.Test.YtolkbelfcgamiaaRgWhole2
namespace Go.Proofs.Ytolkbelfcgamiaa
open Go.RowKit Go.Shelf Go.Maps Go.ChangeMaps

/-- What neither call may touch: what lay ahead of the law, and the ring's blocks. -/
def Ex (w : World) (F : Nat → Prop) (k : Nat) : Prop := k < w.heap.size ∨ F k
structure Md (w W : World) (r rb : Nat) (F : Nat → Prop) (cap : Nat) (bs : List Int) (inn out cap2 : Nat) (A : Option Addr) (c : Nat) (bs2 : List Int) (in2 out2 : Nat) : Prop where
  st : St w W r F cap bs inn out
  rf : Rf W (Ex w F) rb cap2 A c bs2 in2 out2
  fr : ¬ F rb
  rB : w.heap.size ≤ rb
section
variable {w W W' : World} {r rb xb cap inn out cap2 in2 out2 c cap' inn' out' c' cap2' in2' out2' : Nat} {F F' : Nat → Prop} {A A' : Option Addr} {bs bs2 bs' bs2' xs : List Int} {v own xv : Value} {kd n : Int}
theorem Src.mv (h : Src W (fun k => k = rb ∨ Ex w F k) v xs) (m : Mv W W' F F') : Src W' (fun k => k = rb ∨ Ex w F' k) v xs := by
  have h2 := h.keep m.k (fun i e => .inl (.inr (.inr e)))
  obtain ⟨A, c, rfl, h1, h3, h4⟩ := h2
  obtain ⟨A0, c0, e0, _, _, h5⟩ := h
  cases e0
  refine ⟨A, c, rfl, h1, h3, fun h0 => ?_⟩
  obtain ⟨b, o, rfl, hl, hf, hc⟩ := h4 h0
  obtain ⟨b', o', e, hl', _, _⟩ := h5 h0
  cases e
  exact ⟨b, o, rfl, hl, fun e => by
    rcases e with e | e | e
    · exact hf (.inl e)
    · exact hf (.inr (.inl e))
    · rcases m.o b e with e | e
      · exact hf (.inr (.inr e))
      · omega, hc⟩
theorem Md.ring (h : Md w W r rb F cap bs inn out cap2 A c bs2 in2 out2) (s : St w W' r F' cap' bs' inn' out') (m : Mv W W' F F') : Md w W' r rb F' cap' bs' inn' out' cap2 A c bs2 in2 out2 := by
  refine ⟨s, ⟨h.rf.blk.kept m.k h.fr, fun k e => ?_, h.rf.src.mv m, h.rf.cA, h.rf.sp⟩, fun e => ?_, h.rB⟩
  · rcases e with e | e
    · exact Nat.lt_of_lt_of_le e s.base
    · exact (s.1.lt e).1
  · rcases m.o rb e with e | e
    · exact h.fr e
    · have := h.rf.blk.lt; omega
theorem Md.ringK (h : Md w W r rb F cap bs inn out cap2 A c bs2 in2 out2) (s : St w W' r F cap' bs' inn' out') (k : Kept F W W') : Md w W' r rb F cap' bs' inn' out' cap2 A c bs2 in2 out2 := h.ring s ⟨k, fun _ e => .inl e⟩
theorem Md.ref (h : Md w W r rb F cap bs inn out cap2 A c bs2 in2 out2) (f : Rf W' (Ex w F) rb cap2' A' c' bs2' in2' out2') (k : Kept (fun i => i = rb) W W') : Md w W' r rb F cap bs inn out cap2' A' c' bs2' in2' out2' :=
  ⟨⟨h.st.1.kept k (fun i e e2 => h.fr (e2 ▸ e)), h.st.2.trans (k.below (fun i e => by have := h.rB; omega) h.st.base)⟩, f, h.fr, h.rB⟩
theorem Md.quiet (h : Md w W r rb F cap bs inn out cap2 A c bs2 in2 out2) (k : Kept (fun _ => False) W W') : Md w W' r rb F cap bs inn out cap2 A c bs2 in2 out2 :=
  ⟨h.st.kept k, h.rf.kept k (fun e => e) (fun _ e => e.elim), h.fr, h.rB⟩
theorem Md.drewN (h : Md w W r rb F cap bs inn out cap2 A c bs2 in2 out2) (q : Nat) : Md w (W.drewN q) r rb F cap bs inn out cap2 A c bs2 in2 out2 := h.quiet ((Kept.refl _ W).drewN q)

/-- What a round has of its own: a copy of the call, and of its bytes. -/
structure Xo (w W : World) (rb xb : Nat) (F : Nat → Prop) (kd n : Int) (xv own : Value) (xs : List Int) : Prop where
  x : Blk W xb 35 #[.int .i64 kd, .int .i64 n, xv]
  fx : ¬ F xb
  xr : xb ≠ rb
  ow : Src W (fun k => k = rb ∨ Ex w F k) own xs
theorem Xo.mv (h : Xo w W rb xb F kd n xv own xs) (m : Mv W W' F F') : Xo w W' rb xb F' kd n xv own xs :=
  ⟨h.x.kept m.k h.fx, fun e => by
    rcases m.o xb e with e | e
    · exact h.fx e
    · have := h.x.lt; omega, h.xr, h.ow.mv m⟩
theorem Xo.mvK (h : Xo w W rb xb F kd n xv own xs) (k : Kept F W W') : Xo w W' rb xb F kd n xv own xs := h.mv ⟨k, fun _ e => .inl e⟩
theorem Xo.ref (h : Xo w W rb xb F kd n xv own xs) (k : Kept (fun i => i = rb) W W') : Xo w W' rb xb F kd n xv own xs :=
  ⟨h.x.kept k h.xr, h.fx, h.xr, h.ow.keep k (fun i e => .inl (.inl e))⟩
theorem Xo.quiet (h : Xo w W rb xb F kd n xv own xs) (k : Kept (fun _ => False) W W') : Xo w W' rb xb F kd n xv own xs := ⟨h.x.kept k (fun e => e), h.fx, h.xr, h.ow.keep k (fun _ e => e.elim)⟩
theorem Xo.drewN (h : Xo w W rb xb F kd n xv own xs) (q : Nat) : Xo w (W.drewN q) rb xb F kd n xv own xs := h.quiet ((Kept.refl _ W).drewN q)
theorem Xo.cells (h : Xo w W rb xb F kd n xv own xs) : W.cell? ⟨xb, 0, none⟩ = some (.int .i64 kd) ∧ W.cell? ⟨xb, 1, none⟩ = some (.int .i64 n) ∧ W.cell? ⟨xb, 2, none⟩ = some xv ∧ xb < W.heap.size := by
  have e0 := h.x.cell 0
  have e1 := h.x.cell 1
  have e2 := h.x.cell 2
  simp at e0 e1 e2
  exact ⟨e0, e1, e2, h.x.lt⟩
theorem Md.cells (h : Md w W r rb F cap bs inn out cap2 A c bs2 in2 out2) : W.cell? ⟨rb, 0, none⟩ = some (.int .i64 (cap2 : Int)) ∧ W.cell? ⟨rb, 1, none⟩ = some (.slice A bs2.length c) ∧ W.cell? ⟨rb, 2, none⟩ = some (.int .u64 (in2 : Int)) ∧ W.cell? ⟨rb, 3, none⟩ = some (.int .u64 (out2 : Int)) ∧ rb < W.heap.size := by
  have e0 := h.rf.blk.cell 0
  have e1 := h.rf.blk.cell 1
  have e2 := h.rf.blk.cell 2
  have e3 := h.rf.blk.cell 3
  simp at e0 e1 e2 e3
  exact ⟨e0, e1, e2, e3, h.rf.blk.lt⟩
end

/-- What lies at the head of round j. -/
def PyAt (w : World) (r rb j : Nat) (wr : World) : Prop := ∃ F cap bs inn out A c, Md w wr r rb F cap bs inn out cap A c bs inn out ∧ inn ≤ 65536 * j

/-- At the start. -/
theorem py_new {w w1 : World} {r k : Nat} {F : Nat → Prop} (s : St w w1 r F k [] 0 0) : PyAt w r w1.heap.size 0 (w1.alloc (.cells #[.int .i64 (k : Int), .slice none 0 0, .int .u64 0, .int .u64 0] 31)) :=
  ⟨F, k, [], 0, 0, none, 0, ⟨⟨s.1.alloc _, s.2.alloc s.base _⟩, ⟨Blk.new w1 _ _, fun i e => by
    rcases e with e | e
    · have := s.base; simp; omega
    · have := (s.1.lt e).1; simp; omega, ⟨none, 0, rfl, Nat.le_refl _, by omega, fun h => by simp at h⟩, fun _ => rfl, (fun a e => by cases e)⟩, fun e => by have := (s.1.lt e).1; omega, s.base⟩, by omega⟩
end Go.Proofs.Ytolkbelfcgamiaa
