/-
  Select, over anything that answers as a world does.
-/
import Derived.Test.YtbbgnpnopodppaaDoorSePure
import Derived.Test.YtbbgnpnopodppaaDoorSeBase
namespace Go.Proofs.YtbbgnpnopodppaaDoor
open Go.RowKit Go.Shelf Go.Maps Go.ChangeMaps

attribute [local go_sem] Oper.semAt_some

/-- Blocks laid one behind the other. -/
def allocL (w : World) : List (TypeId × Array Value) → World
  | [] => w
  | o :: os => allocL (w.alloc (.cells o.2 o.1)) os
theorem allocL_kept : ∀ (os : List (TypeId × Array Value)) (w : World), Kept (fun _ => False) w (allocL w os) ∧ (allocL w os).heap.size = w.heap.size + os.length
  | [], w => ⟨Kept.refl _ _, rfl⟩
  | o :: os, w => by
    obtain ⟨h1, h2⟩ := allocL_kept os (w.alloc (.cells o.2 o.1))
    refine ⟨((Kept.refl _ w).alloc (.cells o.2 o.1)).trans h1, ?_⟩
    show (allocL (w.alloc (.cells o.2 o.1)) os).heap.size = _
    rw [h2, World.size_alloc, List.length_cons]; omega
theorem allocL_blk : ∀ (os : List (TypeId × Array Value)) (w : World) (k : Nat) (o : TypeId × Array Value), os[k]? = some o → Blk (allocL w os) (w.heap.size + k) o.1 o.2
  | [], w, k, o, h => by simp at h
  | o :: os, w, 0, o', h => by
    simp at h
    subst h
    have h1 := (allocL_kept os (w.alloc (.cells o.2 o.1))).1
    have := (Blk.new w o.1 o.2).kept h1 (fun e => e)
    exact this
  | o :: os, w, k + 1, o', h => by
    have := allocL_blk os (w.alloc (.cells o.2 o.1)) k o' (by simpa using h)
    rw [World.size_alloc, Nat.add_assoc, Nat.add_comm 1 k] at this
    exact this
theorem allocL_at {os : List (TypeId × Array Value)} {t : TypeId} {cs : Array Value} (w : World) (k : Nat) (h : os[k]? = some (t, cs)) : Blk (allocL w os) (w.heap.size + k) t cs := allocL_blk os w k _ h
/-- What a round of Select finds. -/
structure SelI (w : World) (p : Nat) (top : Int) (A : Acc) (n : Int) (e : Int) (W : World) : Prop where
  b0 : Blk W w.heap.size 22 #[.pointer (some ⟨p, 0, none⟩)]
  b1 : Blk W (w.heap.size + 1) 3 #[.int .i64 top]
  b4 : Blk W (w.heap.size + 4) 28 (setC A.r0 A.r1)
  b5 : Blk W (w.heap.size + 5) 28 (setC A.s0 A.s1)
  b6 : Blk W (w.heap.size + 6) 3 #[.int .i64 n]
  b7 : Blk W (w.heap.size + 7) 24 #[.int .i64 e]
  bel : Below w.heap.size w W
theorem SelI.below {w W W' : World} {p : Nat} {top : Int} {A : Acc} {n e : Int} (h : SelI w p top A n e W) (hb : Below W.heap.size W W') : SelI w p top A n e W' :=
  ⟨h.b0.same (hb.block _ h.b0.lt), h.b1.same (hb.block _ h.b1.lt), h.b4.same (hb.block _ h.b4.lt), h.b5.same (hb.block _ h.b5.lt), h.b6.same (hb.block _ h.b6.lt), h.b7.same (hb.block _ h.b7.lt), Fs.below_endL h.bel hb⟩
theorem SelI.chR {w W W' : World} {p : Nat} {top : Int} {A : Acc} {n e : Int} {M : Nat} (h : SelI w p top A n e W) (k : ChR M W W') (hM : w.heap.size ≤ M) : SelI w p top A n e W' :=
  ⟨blk_chR h.b0 k, blk_chR h.b1 k, blk_chR h.b4 k, blk_chR h.b5 k, blk_chR h.b6 k, blk_chR h.b7 k, below_chR h.bel k hM⟩
abbrev SelF (w : World) (b : Nat) : Prop := b = w.heap.size + 4 ∨ b = w.heap.size + 5 ∨ b = w.heap.size + 6 ∨ b = w.heap.size + 7
/-- .. while one is asked: what is ready lies in block g. -/
structure SelS (w W2 : World) (p : Nat) (top : Int) (A : Acc) (g : Nat) (q0 q1 q2 q3 q4 q5 q6 : Value) (W : World) : Prop where
  i : SelI w p top A 0 0 W
  k : Kept (SelF w) W2 W
  b : Blk W g 62 #[q0, q1, q2, q3, q4, q5, q6]
  g8 : w.heap.size + 8 ≤ g
section
variable {w W2 W W' : World} {p : Nat} {top : Int} {A : Acc} {g : Nat} {q0 q1 q2 q3 q4 q5 q6 : Value}
theorem SelS.below (h : SelS w W2 p top A g q0 q1 q2 q3 q4 q5 q6 W) (hb : Below W.heap.size W W') : SelS w W2 p top A g q0 q1 q2 q3 q4 q5 q6 W' :=
  ⟨h.i.below hb, h.k.trans (Kept.of_below hb), h.b.same (hb.block _ h.b.lt), h.g8⟩
theorem SelS.putR (h : SelS w W2 p top A g q0 q1 q2 q3 q4 q5 q6 W) {x y : Nat} : SelS w W2 p top { A with r0 := x, r1 := y } g q0 q1 q2 q3 q4 q5 q6 ((W.setCell ⟨w.heap.size + 1 + 1 + 1 + 1, 0, none⟩ (.int .u32 (x : Int))).setCell ⟨w.heap.size + 1 + 1 + 1 + 1, 1, none⟩ (.int .u32 (y : Int))) := by
  have hg := h.g8
  refine ⟨⟨(h.i.b0.far (by simp <;> omega) _).far (by simp <;> omega) _, (h.i.b1.far (by simp <;> omega) _).far (by simp <;> omega) _, (h.i.b4.set_ 0 _).set_ 1 _, (h.i.b5.far (by simp) _).far (by simp) _, (h.i.b6.far (by simp) _).far (by simp) _, (h.i.b7.far (by simp) _).far (by simp) _, (h.i.bel.setCell (by simp <;> omega) _).setCell (by simp <;> omega) _⟩,
    (h.k.setCell (.inl rfl) _).setCell (.inl rfl) _, (h.b.far (by simp <;> omega) _).far (by simp <;> omega) _, h.g8⟩
theorem SelS.putW (h : SelS w W2 p top A g q0 q1 q2 q3 q4 q5 q6 W) {x y : Nat} : SelS w W2 p top { A with s0 := x, s1 := y } g q0 q1 q2 q3 q4 q5 q6 ((W.setCell ⟨w.heap.size + 1 + 1 + 1 + 1 + 1, 0, none⟩ (.int .u32 (x : Int))).setCell ⟨w.heap.size + 1 + 1 + 1 + 1 + 1, 1, none⟩ (.int .u32 (y : Int))) := by
  have hg := h.g8
  refine ⟨⟨(h.i.b0.far (by simp <;> omega) _).far (by simp <;> omega) _, (h.i.b1.far (by simp <;> omega) _).far (by simp <;> omega) _, (h.i.b4.far (by simp) _).far (by simp) _, (h.i.b5.set_ 0 _).set_ 1 _, (h.i.b6.far (by simp) _).far (by simp) _, (h.i.b7.far (by simp) _).far (by simp) _, (h.i.bel.setCell (by simp <;> omega) _).setCell (by simp <;> omega) _⟩,
    (h.k.setCell (.inr (.inl rfl)) _).setCell (.inr (.inl rfl)) _, (h.b.far (by simp <;> omega) _).far (by simp <;> omega) _, h.g8⟩
theorem SelS.facts (h : SelS w W2 p top A g q0 q1 q2 q3 q4 q5 q6 W) : RowKit.Hid (SelS w W2 p top A g q0 q1 q2 q3 q4 q5 q6 W) ∧
    W.cell? ⟨w.heap.size + 1 + 1 + 1 + 1, 0, none⟩ = some (.int .u32 (A.r0 : Int)) ∧ W.cell? ⟨w.heap.size + 1 + 1 + 1 + 1, 1, none⟩ = some (.int .u32 (A.r1 : Int)) ∧ w.heap.size + 1 + 1 + 1 + 1 < W.heap.size ∧ W.frozen? ⟨w.heap.size + 1 + 1 + 1 + 1, 0, none⟩ = false ∧ W.frozen? ⟨w.heap.size + 1 + 1 + 1 + 1, 1, none⟩ = false ∧
    W.cell? ⟨w.heap.size + 1 + 1 + 1 + 1 + 1, 0, none⟩ = some (.int .u32 (A.s0 : Int)) ∧ W.cell? ⟨w.heap.size + 1 + 1 + 1 + 1 + 1, 1, none⟩ = some (.int .u32 (A.s1 : Int)) ∧ w.heap.size + 1 + 1 + 1 + 1 + 1 < W.heap.size ∧ W.frozen? ⟨w.heap.size + 1 + 1 + 1 + 1 + 1, 0, none⟩ = false ∧ W.frozen? ⟨w.heap.size + 1 + 1 + 1 + 1 + 1, 1, none⟩ = false ∧
    W.cell? ⟨g, 0, none⟩ = some q0 ∧ W.cell? ⟨g, 1, none⟩ = some q1 ∧ W.cell? ⟨g, 2, none⟩ = some q2 ∧ W.cell? ⟨g, 3, none⟩ = some q3 ∧ W.cell? ⟨g, 4, none⟩ = some q4 ∧ W.cell? ⟨g, 5, none⟩ = some q5 ∧ W.cell? ⟨g, 6, none⟩ = some q6 ∧ g < W.heap.size :=
  ⟨Lib.hid h, h.i.b4.cell 0, h.i.b4.cell 1, h.i.b4.lt, h.i.b4.frozen 0, h.i.b4.frozen 1, h.i.b5.cell 0, h.i.b5.cell 1, h.i.b5.lt, h.i.b5.frozen 0, h.i.b5.frozen 1, h.b.cell 0, h.b.cell 1, h.b.cell 2, h.b.cell 3, h.b.cell 4, h.b.cell 5, h.b.cell 6, h.b.lt⟩
/-- Behind Ready. -/
theorem SelI.next (h : SelI w p top A 0 0 W) (k : Kept (fun _ => False) W W') : RowKit.Hid (SelS w W p top A W'.heap.size q0 q1 q2 q3 q4 q5 q6 (W'.alloc (.cells #[q0, q1, q2, q3, q4, q5, q6] 62))) ∧
    W'.cell? ⟨w.heap.size + 1, 0, none⟩ = some (.int .i64 top) ∧ w.heap.size + 1 < W'.heap.size ∧ W'.cell? ⟨w.heap.size + 1 + 1 + 1 + 1, 0, none⟩ = some (.int .u32 (A.r0 : Int)) ∧ W'.cell? ⟨w.heap.size + 1 + 1 + 1 + 1, 1, none⟩ = some (.int .u32 (A.r1 : Int)) ∧ w.heap.size + 1 + 1 + 1 + 1 < W'.heap.size ∧
    W'.cell? ⟨w.heap.size + 1 + 1 + 1 + 1 + 1, 0, none⟩ = some (.int .u32 (A.s0 : Int)) ∧ W'.cell? ⟨w.heap.size + 1 + 1 + 1 + 1 + 1, 1, none⟩ = some (.int .u32 (A.s1 : Int)) ∧ w.heap.size + 1 + 1 + 1 + 1 + 1 < W'.heap.size ∧ w.heap.size + 8 ≤ W'.heap.size ∧
    W'.frozen? ⟨w.heap.size + 1 + 1 + 1 + 1, 0, none⟩ = false ∧ W'.frozen? ⟨w.heap.size + 1 + 1 + 1 + 1, 1, none⟩ = false ∧ W'.frozen? ⟨w.heap.size + 1 + 1 + 1 + 1 + 1, 0, none⟩ = false ∧ W'.frozen? ⟨w.heap.size + 1 + 1 + 1 + 1 + 1, 1, none⟩ = false ∧ W'.frozen? ⟨w.heap.size + 1 + 1 + 1 + 1 + 1 + 1, 0, none⟩ = false ∧ W'.cell? ⟨w.heap.size + 1 + 1 + 1 + 1 + 1 + 1, 0, none⟩ = some (.int .i64 0) ∧ W'.frozen? ⟨w.heap.size + 1 + 1 + 1 + 1 + 1 + 1 + 1, 0, none⟩ = false ∧ W'.cell? ⟨w.heap.size + 1 + 1 + 1 + 1 + 1 + 1 + 1, 0, none⟩ = some (.int .i64 0) ∧ w.heap.size + 1 + 1 + 1 + 1 + 1 + 1 < W'.heap.size ∧ w.heap.size + 1 + 1 + 1 + 1 + 1 + 1 + 1 < W'.heap.size := by
  have h2 := h.below (k.below (fun _ e => e.elim) (Nat.le_refl _))
  have l7 := h2.b7.lt
  exact ⟨Lib.hid ⟨h2.below ((Below.refl _ _).alloc (Nat.le_refl _) _), (k.mono (fun _ _ e => e.elim)).alloc _, Blk.new _ _ _, by omega⟩, h2.b1.cell 0, h2.b1.lt, h2.b4.cell 0, h2.b4.cell 1, h2.b4.lt, h2.b5.cell 0, h2.b5.cell 1, h2.b5.lt, by omega, h2.b4.frozen 0, h2.b4.frozen 1, h2.b5.frozen 0, h2.b5.frozen 1, h2.b6.frozen 0, h2.b6.cell 0, h2.b7.frozen 0, h2.b7.cell 0, h2.b6.lt, h2.b7.lt⟩
theorem SelI.facts {n e : Int} (h : SelI w p top A n e W) : RowKit.Hid (SelI w p top A n e W) ∧ W.cell? ⟨w.heap.size + 1 + 1 + 1 + 1, 0, none⟩ = some (.int .u32 (A.r0 : Int)) ∧
    W.frozen? ⟨w.heap.size + 1 + 1 + 1 + 1, 0, none⟩ = false ∧
    W.cell? ⟨w.heap.size + 1 + 1 + 1 + 1, 1, none⟩ = some (.int .u32 (A.r1 : Int)) ∧
    W.frozen? ⟨w.heap.size + 1 + 1 + 1 + 1, 1, none⟩ = false ∧
    w.heap.size + 1 + 1 + 1 + 1 < W.heap.size ∧
    W.cell? ⟨w.heap.size + 1 + 1 + 1 + 1 + 1, 0, none⟩ = some (.int .u32 (A.s0 : Int)) ∧
    W.frozen? ⟨w.heap.size + 1 + 1 + 1 + 1 + 1, 0, none⟩ = false ∧
    W.cell? ⟨w.heap.size + 1 + 1 + 1 + 1 + 1, 1, none⟩ = some (.int .u32 (A.s1 : Int)) ∧
    W.frozen? ⟨w.heap.size + 1 + 1 + 1 + 1 + 1, 1, none⟩ = false ∧
    w.heap.size + 1 + 1 + 1 + 1 + 1 < W.heap.size ∧
    W.cell? ⟨w.heap.size + 1 + 1 + 1 + 1 + 1 + 1, 0, none⟩ = some (.int .i64 n) ∧
    W.frozen? ⟨w.heap.size + 1 + 1 + 1 + 1 + 1 + 1, 0, none⟩ = false ∧
    w.heap.size + 1 + 1 + 1 + 1 + 1 + 1 < W.heap.size ∧
    W.cell? ⟨w.heap.size + 1 + 1 + 1 + 1 + 1 + 1 + 1, 0, none⟩ = some (.int .i64 e) ∧
    W.frozen? ⟨w.heap.size + 1 + 1 + 1 + 1 + 1 + 1 + 1, 0, none⟩ = false ∧
    w.heap.size + 1 + 1 + 1 + 1 + 1 + 1 + 1 < W.heap.size :=
  ⟨Lib.hid h, h.b4.cell 0, h.b4.frozen 0, h.b4.cell 1, h.b4.frozen 1, h.b4.lt, h.b5.cell 0, h.b5.frozen 0, h.b5.cell 1, h.b5.frozen 1, h.b5.lt, h.b6.cell 0, h.b6.frozen 0, h.b6.lt, h.b7.cell 0, h.b7.frozen 0, h.b7.lt⟩
theorem SelI.err (h : SelI w p top A 0 0 W) (k : Kept (fun _ => False) W W') {V : World} {o : Obj} (hV : V = ((((((W'.setCell ⟨w.heap.size + 1 + 1 + 1 + 1, 0, none⟩ (.int .u32 0)).setCell ⟨w.heap.size + 1 + 1 + 1 + 1, 1, none⟩ (.int .u32 0)).setCell ⟨w.heap.size + 1 + 1 + 1 + 1 + 1, 0, none⟩ (.int .u32 0)).setCell ⟨w.heap.size + 1 + 1 + 1 + 1 + 1, 1, none⟩ (.int .u32 0)).setCell ⟨w.heap.size + 1 + 1 + 1 + 1 + 1 + 1, 0, none⟩ (.int .i64 0)).setCell ⟨w.heap.size + 1 + 1 + 1 + 1 + 1 + 1 + 1, 0, none⟩ (.int .i64 110)).alloc o) :
    SelI w p top ⟨0, 0, 0, 0⟩ 0 110 V ∧ Kept (SelF w) W V := by
  subst hV
  have h2 := h.below (k.below (fun _ e => e.elim) (Nat.le_refl _))
  have hg : w.heap.size + 8 ≤ W'.heap.size := h2.b7.lt
  exact ⟨⟨((((((h2.b0.far (by simp <;> omega) _).far (by simp <;> omega) _).far (by simp <;> omega) _).far (by simp <;> omega) _).far (by simp <;> omega) _).far (by simp <;> omega) _).alloc o,
    ((((((h2.b1.far (by simp <;> omega) _).far (by simp <;> omega) _).far (by simp <;> omega) _).far (by simp <;> omega) _).far (by simp <;> omega) _).far (by simp <;> omega) _).alloc o,
    ((((((h2.b4.set_ 0 (.int .u32 0)).set_ 1 (.int .u32 0)).far (by simp <;> omega) _).far (by simp <;> omega) _).far (by simp <;> omega) _).far (by simp <;> omega) _).alloc o,
    ((((((h2.b5.far (by simp <;> omega) _).far (by simp <;> omega) _).set_ 0 (.int .u32 0)).set_ 1 (.int .u32 0)).far (by simp <;> omega) _).far (by simp <;> omega) _).alloc o,
    ((((((h2.b6.far (by simp <;> omega) _).far (by simp <;> omega) _).far (by simp <;> omega) _).far (by simp <;> omega) _).set_ 0 (.int .i64 0)).far (by simp <;> omega) _).alloc o,
    ((((((h2.b7.far (by simp <;> omega) _).far (by simp <;> omega) _).far (by simp <;> omega) _).far (by simp <;> omega) _).far (by simp <;> omega) _).set_ 0 (.int .i64 110)).alloc o,
    ((((((h2.bel.setCell (by simp <;> omega) _).setCell (by simp <;> omega) _).setCell (by simp <;> omega) _).setCell (by simp <;> omega) _).setCell (by simp <;> omega) _).setCell (by simp <;> omega) _).alloc (by simp <;> omega) o⟩, (((((((k.mono (fun _ _ e => e.elim) : Kept (SelF w) W W').setCell (.inl rfl) _).setCell (.inl rfl) _).setCell (.inr (.inl rfl)) _).setCell (.inr (.inl rfl)) _).setCell (.inr (.inr (.inl rfl))) _).setCell (.inr (.inr (.inr rfl))) _).alloc o⟩
end
theorem SelI.fin {w W : World} {p : Nat} {top : Int} {A : Acc} {n e : Int} (h : SelI w p top A n e W) (x y : Int) {Z : World} (hZ : Z = (((((W.setCell ⟨w.heap.size + 1 + 1 + 1 + 1, 0, none⟩ (.int .u32 (A.r0 : Int))).setCell ⟨w.heap.size + 1 + 1 + 1 + 1, 1, none⟩ (.int .u32 (A.r1 : Int))).setCell ⟨w.heap.size + 1 + 1 + 1 + 1 + 1, 0, none⟩ (.int .u32 (A.s0 : Int))).setCell ⟨w.heap.size + 1 + 1 + 1 + 1 + 1, 1, none⟩ (.int .u32 (A.s1 : Int))).setCell ⟨w.heap.size + 1 + 1 + 1 + 1 + 1 + 1, 0, none⟩ (.int .i64 x)).setCell ⟨w.heap.size + 1 + 1 + 1 + 1 + 1 + 1 + 1, 0, none⟩ (.int .i64 y)) :
    SelI w p top A x y Z ∧ ∀ k, w.heap.size + 8 ≤ k → Z.heap[k]? = W.heap[k]? := by
  subst hZ
  refine ⟨⟨((((((h.b0.far (by simp <;> omega) _).far (by simp <;> omega) _).far (by simp <;> omega) _).far (by simp <;> omega) _).far (by simp <;> omega) _).far (by simp <;> omega) _),
    ((((((h.b1.far (by simp <;> omega) _).far (by simp <;> omega) _).far (by simp <;> omega) _).far (by simp <;> omega) _).far (by simp <;> omega) _).far (by simp <;> omega) _),
    ((((((h.b4.set_ 0 (.int .u32 (A.r0 : Int))).set_ 1 (.int .u32 (A.r1 : Int))).far (by simp <;> omega) _).far (by simp <;> omega) _).far (by simp <;> omega) _).far (by simp <;> omega) _),
    ((((((h.b5.far (by simp <;> omega) _).far (by simp <;> omega) _).set_ 0 (.int .u32 (A.s0 : Int))).set_ 1 (.int .u32 (A.s1 : Int))).far (by simp <;> omega) _).far (by simp <;> omega) _),
    ((((((h.b6.far (by simp <;> omega) _).far (by simp <;> omega) _).far (by simp <;> omega) _).far (by simp <;> omega) _).set_ 0 (.int .i64 x)).far (by simp <;> omega) _),
    ((((((h.b7.far (by simp <;> omega) _).far (by simp <;> omega) _).far (by simp <;> omega) _).far (by simp <;> omega) _).far (by simp <;> omega) _).set_ 0 (.int .i64 y)),
    ((((((h.bel.setCell (by simp <;> omega) _).setCell (by simp <;> omega) _).setCell (by simp <;> omega) _).setCell (by simp <;> omega) _).setCell (by simp <;> omega) _).setCell (by simp <;> omega) _)⟩, fun k hk => ?_⟩
  exact (Below.heap_setCell _ _ _ _ (by dsimp only; omega)).trans ((Below.heap_setCell _ _ _ _ (by dsimp only; omega)).trans ((Below.heap_setCell _ _ _ _ (by dsimp only; omega)).trans ((Below.heap_setCell _ _ _ _ (by dsimp only; omega)).trans ((Below.heap_setCell _ _ _ _ (by dsimp only; omega)).trans (Below.heap_setCell _ _ _ _ (by dsimp only; omega))))))
abbrev S4 (w : World) (A : Acc) (W : World) : Prop := W.cell? ⟨w.heap.size + 1 + 1 + 1 + 1, 0, none⟩ = some (.int .u32 (A.r0 : Int)) ∧ W.cell? ⟨w.heap.size + 1 + 1 + 1 + 1, 1, none⟩ = some (.int .u32 (A.r1 : Int)) ∧ W.cell? ⟨w.heap.size + 1 + 1 + 1 + 1 + 1, 0, none⟩ = some (.int .u32 (A.s0 : Int)) ∧ W.cell? ⟨w.heap.size + 1 + 1 + 1 + 1 + 1, 1, none⟩ = some (.int .u32 (A.s1 : Int))
theorem S4.setR {w W : World} {A : Acc} (h : S4 w A W) : S4 w A ((W.setCell ⟨w.heap.size + 1 + 1 + 1 + 1, 0, none⟩ (.int .u32 (A.r0 : Int))).setCell ⟨w.heap.size + 1 + 1 + 1 + 1, 1, none⟩ (.int .u32 (A.r1 : Int))) := by
  obtain ⟨h1, h2, h3, h4⟩ := h
  obtain ⟨k1, k2⟩ := Fs.two_set (.int .u32 (A.r0 : Int)) (.int .u32 (A.r1 : Int)) h1 h2
  exact ⟨k1, k2, (World.cell?_setCell_other _ _ _ _ (by simp)).trans ((World.cell?_setCell_other _ _ _ _ (by simp)).trans h3), (World.cell?_setCell_other _ _ _ _ (by simp)).trans ((World.cell?_setCell_other _ _ _ _ (by simp)).trans h4)⟩
theorem S4.setS {w W : World} {A : Acc} (h : S4 w A W) : S4 w A ((W.setCell ⟨w.heap.size + 1 + 1 + 1 + 1 + 1, 0, none⟩ (.int .u32 (A.s0 : Int))).setCell ⟨w.heap.size + 1 + 1 + 1 + 1 + 1, 1, none⟩ (.int .u32 (A.s1 : Int))) := by
  obtain ⟨h1, h2, h3, h4⟩ := h
  obtain ⟨k1, k2⟩ := Fs.two_set (.int .u32 (A.s0 : Int)) (.int .u32 (A.s1 : Int)) h3 h4
  exact ⟨(World.cell?_setCell_other _ _ _ _ (by simp)).trans ((World.cell?_setCell_other _ _ _ _ (by simp)).trans h1), (World.cell?_setCell_other _ _ _ _ (by simp)).trans ((World.cell?_setCell_other _ _ _ _ (by simp)).trans h2), k1, k2⟩
theorem S4.set6 {w W : World} {A : Acc} (h : S4 w A W) (v : Value) : S4 w A (W.setCell ⟨w.heap.size + 1 + 1 + 1 + 1 + 1 + 1, 0, none⟩ v) := by
  obtain ⟨h1, h2, h3, h4⟩ := h
  exact ⟨(World.cell?_setCell_other _ _ _ _ (by simp)).trans h1, (World.cell?_setCell_other _ _ _ _ (by simp)).trans h2, (World.cell?_setCell_other _ _ _ _ (by simp)).trans h3, (World.cell?_setCell_other _ _ _ _ (by simp)).trans h4⟩
theorem S4.set7 {w W : World} {A : Acc} (h : S4 w A W) (v : Value) : S4 w A (W.setCell ⟨w.heap.size + 1 + 1 + 1 + 1 + 1 + 1 + 1, 0, none⟩ v) := by
  obtain ⟨h1, h2, h3, h4⟩ := h
  exact ⟨(World.cell?_setCell_other _ _ _ _ (by simp)).trans h1, (World.cell?_setCell_other _ _ _ _ (by simp)).trans h2, (World.cell?_setCell_other _ _ _ _ (by simp)).trans h3, (World.cell?_setCell_other _ _ _ _ (by simp)).trans h4⟩
set_option maxRecDepth 100000 in
set_option maxHeartbeats 8000000 in
theorem select_any {w : World} {p : Nat} {rd : Nat → Rdy} {top : Int} (ht : 0 ≤ top ∧ top ≤ 64) {a b c d : Nat} (ha : a < 4294967296) (hb : b < 4294967296) (hc : c < 4294967296) (hd : d < 4294967296) (hT : Fs.Tab w) (hg : 0 < w.heap.size)
    (hrd : ∀ w', Below w.heap.size w w' → ∀ n : Nat, n < 64 → Calls Tryd.prog 19 #[.pointer (some ⟨p, 0, none⟩), .int .i64 (n : Int)] w' fun e w'' => e = .returned (rdyV (rd n)) ∧ Kept (fun _ => False) w' w'') :
    Calls Tryd.prog 6 #[.pointer (some ⟨p, 0, none⟩), .int .i64 top, setV a b, setV c d] w fun e w' => e = .returned (selV rd top a b c d) ∧ Below w.heap.size w w' := by
  obtain ⟨t0, t1⟩ := ht
  have t2 : ¬ top < 0 := by omega
  have t3 : ¬ 64 < top := by omega
  have HR := Lib.hid hrd
  have HT := Lib.hid hT
  clear hrd hT
  refine (callsIn_wide (n := 4)).1 ?_
  refine callsIn_of_wp_marks Tryd.func6 rfl trivial ?_ rfl
  simp only [Tryd.ntmps6, List.size_toArray, List.length_cons, List.length_nil, Nat.reduceAdd, Nat.reduceSub, Array.replicate_succ, Array.replicate_zero, List.push_toArray, List.append_toArray, List.nil_append, List.cons_append]
  gi_wp2_with fail
  refine wpIn_wide.2 (wp_scope_straight ((wpIn_wide (n := 4)).1 ?_))
  gi_wp2
  refine wpIn_label ?_
  gi_wp2_with (refine ⟨trivial, ?_⟩; gi_at_call 18; refine (callsIn_wide.2 (requests_call _ a b c d)).mono ?_; rintro e w1 ⟨rfl, rfl⟩)
  obtain ⟨V, hV⟩ : ∃ V, V = allocL w [(22, #[.pointer (some ⟨p, 0, none⟩)]), (3, #[.int .i64 top]), (28, #[.int .u32 (a : Int), .int .u32 (b : Int)]), (28, #[.int .u32 (c : Int), .int .u32 (d : Int)]), (28, #[.int .u32 0, .int .u32 0]), (28, #[.int .u32 0, .int .u32 0]), (3, #[.int .i64 0]), (24, #[.int .i64 0]), (28, #[.int .u32 (a : Int), .int .u32 (b : Int)]), (28, #[.int .u32 (c : Int), .int .u32 (d : Int)])] := ⟨_, rfl⟩
  have hVs : V.heap.size = w.heap.size + 10 := by rw [hV]; exact (allocL_kept _ w).2
  have hVk : Kept (fun _ => False) w V := by rw [hV]; exact (allocL_kept _ w).1
  have hI0 : SelI w p top ⟨0, 0, 0, 0⟩ 0 0 V := by
    rw [hV]
    exact ⟨allocL_at w 0 rfl, allocL_at w 1 rfl, allocL_at w 4 rfl, allocL_at w 5 rfl, allocL_at w 6 rfl, allocL_at w 7 rfl, (allocL_kept _ w).1.below (fun _ e => e.elim) (Nat.le_refl _)⟩
  have v8 : Blk V (w.heap.size + 8) 28 (setC a b) := by rw [hV]; exact allocL_at w 8 rfl
  have v9 : Blk V (w.heap.size + 9) 28 (setC c d) := by rw [hV]; exact allocL_at w 9 rfl
  simp only [allocL] at hV
  rw [← hV]
  have hTV : Fs.Tab V := HT.out.below (by omega) (hVk.below (fun _ e => e.elim) (Nat.le_refl _))
  clear hV
  have HVS := Lib.hid hVs
  refine rangeFunc_o (n := 4) (by omega) (gf := 37) rfl (enters_of Tryd.func37 (by kernel_rfl) rfl) (encs := encPr) (fun _ => False) (fun i => i < w.heap.size ∨ i = w.heap.size + 8 ∨ i = w.heap.size + 9) (S := fun xs => xs = reqs a b c d) (Sp := fun _ => True) (E := fun pre x => ∃ R, pre ++ x :: R = reqs a b c d) (req_o 3 (by omega) ha hb hc hd _ _ v8 v9 hTV _ _ ⟨by omega, .inr (.inl rfl)⟩ ⟨by omega, .inr (.inr rfl)⟩ (by omega)) (fun _ => rfl)
    (fun pre W => ∃ A : Acc, A.ok ∧ (∀ rest, pre ++ rest = reqs a b c d → selR rd top (reqs a b c d) ⟨0, 0, 0, 0⟩ = selR rd top rest A) ∧ SelI w p top A 0 0 W)
    (fun cd pre W => (cd = .exit 1 ∧ ∃ A : Acc, A.ok ∧ selR rd top (reqs a b c d) ⟨0, 0, 0, 0⟩ = some A ∧ SelI w p top A 0 0 W) ∨ (cd = .ret ∧ selR rd top (reqs a b c d) ⟨0, 0, 0, 0⟩ = none ∧ SelI w p top ⟨0, 0, 0, 0⟩ 0 110 W))
    (fun s X Y hi hc => by obtain ⟨A, h1, h2, h3⟩ := hi; exact ⟨A, h1, h2, h3.chR hc (by omega)⟩) (fun cd s X Y hi hc => by
      rcases hi with ⟨h0, A, h1, h2, h3⟩ | ⟨h0, h1, h2⟩
      · exact .inl ⟨h0, A, h1, h2, h3.chR hc (by omega)⟩
      · exact .inr ⟨h0, h1, h2.chR hc (by omega)⟩) ⟨⟨0, 0, 0, 0⟩, ⟨by decide, by decide, by decide, by decide⟩, fun rest e => by rw [← e]; rfl, hI0⟩ ?round ?done ?stop
  case round =>
    rintro l pre ⟨n, s⟩ W hz ⟨A, hA, hs, hI⟩ ⟨R, hR⟩
    have hmem : (n, s) ∈ reqs a b c d := by rw [← hR]; simp
    have hn64 : n < 64 := by
      unfold reqs at hmem
      obtain ⟨m, hm, e⟩ := List.mem_map.1 hmem
      cases e
      exact ((Fs.mem_mem _ _ _).1 hm).1
    have hs4 : s = 0 ∨ s = 2 ∨ s = 4 ∨ s = 6 := by
      unfold reqs at hmem
      obtain ⟨m, hm, e⟩ := List.mem_map.1 hmem
      cases e
      unfold sidesN
      repeat' split
      all_goals simp
    have hs2 := hs ((n, s) :: R) hR
    have hs3 : ∀ rest, (pre ++ [(n, s)]) ++ rest = reqs a b c d → rest = R := fun rest e => by
      rw [← hR, List.append_assoc] at e
      exact (List.cons.inj (List.append_cancel_left e)).2
    have HS := Lib.hid (And.intro hA (And.intro hs2 hs3))
    have HI := Lib.hid hI
    clear hA hs hI hR hs2 hs3 hmem v8 v9 hTV hI0 hVs
    simp only [encPr]
    gi_wp2_with fail
    refine ⟨KeepsFrom.refl _ _, KpO.refl _ _ _ _, fun W2 hc2 => ?_⟩
    have hI := HI.out.chR hc2 (by have := HVS.out; omega)
    have HR2 := Lib.hid (HR.out W2 hI.bel n hn64)
    have k0 : W2.cell? ⟨w.heap.size, 0, none⟩ = some (.pointer (some ⟨p, 0, none⟩)) := hI.b0.cell 0
    have k1 : W2.cell? ⟨w.heap.size + 1, 0, none⟩ = some (.int .i64 top) := hI.b1.cell 0
    have k40 : W2.cell? ⟨w.heap.size + 1 + 1 + 1 + 1, 0, none⟩ = some (.int .u32 (A.r0 : Int)) := hI.b4.cell 0
    have k41 : W2.cell? ⟨w.heap.size + 1 + 1 + 1 + 1, 1, none⟩ = some (.int .u32 (A.r1 : Int)) := hI.b4.cell 1
    have k50 : W2.cell? ⟨w.heap.size + 1 + 1 + 1 + 1 + 1, 0, none⟩ = some (.int .u32 (A.s0 : Int)) := hI.b5.cell 0
    have k51 : W2.cell? ⟨w.heap.size + 1 + 1 + 1 + 1 + 1, 1, none⟩ = some (.int .u32 (A.s1 : Int)) := hI.b5.cell 1
    have l0 := hI.b0.lt
    have l1 := hI.b1.lt
    have l4 := hI.b4.lt
    have l5 := hI.b5.lt
    have HI2 := Lib.hid hI
    have hA0 := HS.out.1.1
    have hA1 := HS.out.1.2.1
    have hA2 := HS.out.1.2.2.1
    have hA3 := HS.out.1.2.2.2
    clear hI hc2 HI
    have hkf : ∀ W', Kept (SelF w) W2 W' → KeepsFrom V.heap.size W2 W' ∧ KpO (fun _ => False) V.heap.size (fun i => i < w.heap.size ∨ i = w.heap.size + 8 ∨ i = w.heap.size + 9) W2 W' := fun W' k => ⟨KeepsFrom.of_kept k (fun k o h1 _ e => by have := HVS.out; unfold SelF at e; omega), KpO.of_kept k (fun k h1 e => by have := HVS.out; unfold SelF at e; exact ⟨fun _ => by omega, fun _ => by omega⟩)⟩
    have HKF := Lib.hid hkf
    clear hkf
    obtain ⟨q, hq⟩ : ∃ q, q = rd n := ⟨_, rfl⟩
    rw [← hq] at HR2
    have HQ := Lib.hid hq
    clear hq
    obtain ⟨io, ri, ou, hu, er, rr, rw_⟩ := q
    have HN := Lib.hid (fun (W' : World) (h3 : Kept (fun _ => False) W2 W') => HI2.out.next (q0 := .bool io) (q1 := .bool ri) (q2 := .bool ou) (q3 := .bool hu) (q4 := .bool er) (q5 := .int .u64 (rr : Int)) (q6 := .int .u64 (rw_ : Int)) h3)
    by_cases htn : top ≤ (n : Int)
    · gi_wp2_with (refine ⟨trivial, ?_⟩; gi_at_call 19; refine (CallsIn.inRound l (callsIn_wide.2 HR2.out)).mono ?_; rintro e W3 ⟨rfl, h3⟩; simp only [rdyV]; obtain ⟨HS3, f1, f2, f3, f4, f5, f6, f7, f8, f9, z1, z2, z3, z4, z5, z6, z7, z8, z9, z10⟩ := HN.out _ h3; have HK3 := Lib.hid h3; clear h3 k0 k1 k40 k41 k50 k51 l0 l1 l4 l5)
      obtain ⟨g1, g2⟩ := HKF.out _ HS3.out.k
      refine ⟨g1, g2, .inl ⟨rfl, A, HS.out.1, ?_, HS3.out.i⟩⟩
      rw [HS.out.2.1]
      unfold selR
      rw [if_pos htn]
    · cases io with
      | false =>
        gi_wp2_with (refine ⟨trivial, ?_⟩; gi_at_call 19; refine (CallsIn.inRound l (callsIn_wide.2 HR2.out)).mono ?_; rintro e W3 ⟨rfl, h3⟩; simp only [rdyV]; obtain ⟨HS3, f1, f2, f3, f4, f5, f6, f7, f8, f9, z1, z2, z3, z4, z5, z6, z7, z8, z9, z10⟩ := HN.out _ h3; have HK3 := Lib.hid h3; clear h3 k0 k1 k40 k41 k50 k51 l0 l1 l4 l5)
        obtain ⟨g1, g2⟩ := HI2.out.err HK3.out rfl
        obtain ⟨g3, g4⟩ := HKF.out _ g2
        refine ⟨g3, g4, .inr ⟨rfl, ?_, g1⟩⟩
        rw [HS.out.2.1]
        unfold selR
        rw [if_neg (by omega), ← HQ.out]
        rfl
      | true =>
        have HRd := fun (W' : World) => show Calls Tryd.prog 20 #[.agg #[.bool true, .bool ri, .bool ou, .bool hu, .bool er, .int .u64 (rr : Int), .int .u64 (rw_ : Int)]] W' fun e w' => e = .returned (.bool (Rdy.r ⟨true, ri, ou, hu, er, rr, rw_⟩)) ∧ Below W'.heap.size W' w' from readable_any W' _
        have HWr := fun (W' : World) => show Calls Tryd.prog 22 #[.agg #[.bool true, .bool ri, .bool ou, .bool hu, .bool er, .int .u64 (rr : Int), .int .u64 (rw_ : Int)]] W' fun e w' => e = .returned (.bool (Rdy.w ⟨true, ri, ou, hu, er, rr, rw_⟩)) ∧ Below W'.heap.size W' w' from writable_any W' _
        have fin : ∀ (A' : Acc) (W' : World) (g : Nat) (q0 q1 q2 q3 q4 q5 q6 : Value), SelS w W2 p top A' g q0 q1 q2 q3 q4 q5 q6 W' → A' = A.step rd (n, s) → KeepsFrom V.heap.size W2 W' ∧ KpO (fun _ => False) V.heap.size (fun i => i < w.heap.size ∨ i = w.heap.size + 8 ∨ i = w.heap.size + 9) W2 W' ∧ ∃ A : Acc, A.ok ∧ (∀ rest, (pre ++ [(n, s)]) ++ rest = reqs a b c d → selR rd top (reqs a b c d) ⟨0, 0, 0, 0⟩ = selR rd top rest A) ∧ SelI w p top A 0 0 W' := fun A' W' g q0 q1 q2 q3 q4 q5 q6 h e => by
          obtain ⟨g1, g2⟩ := HKF.out _ h.k
          refine ⟨g1, g2, A', e ▸ HS.out.1.step rd (n, s), fun rest er => ?_, h.i⟩
          rw [HS.out.2.1, HS.out.2.2 rest er]
          conv => lhs; unfold selR
          rw [if_neg (by omega), ← HQ.out, if_pos rfl, ← e]
        have FIN := Lib.hid fin
        clear fin
        rcases hs4 with rfl | rfl | rfl | rfl
        -- LEAVES
        · skip
          gi_wp2_with (first | (refine ⟨trivial, ?_⟩; gi_at_call 19; refine (CallsIn.inRound l (callsIn_wide.2 HR2.out)).mono ?_; rintro e W3 ⟨rfl, h3⟩; simp only [rdyV]; obtain ⟨HS3, f1, f2, f3, f4, f5, f6, f7, f8, f9, z1, z2, z3, z4, z5, z6, z7, z8, z9, z10⟩ := HN.out _ h3; have HK3 := Lib.hid h3; clear h3 k0 k1 k40 k41 k50 k51 l0 l1 l4 l5) | refine ⟨trivial, ?_⟩)
          exact FIN.out _ _ _ _ _ _ _ _ _ _ HS3.out (by simp [Acc.step, Acc.putR, Acc.putW, sdR, sdW, ← HQ.out])
        · skip
          cases hrq : Rdy.r ⟨true, ri, ou, hu, er, rr, rw_⟩ with
          | false =>
            rw [hrq] at HRd
            gi_wp2_with (first | (refine ⟨trivial, ?_⟩; gi_at_call 19; refine (CallsIn.inRound l (callsIn_wide.2 HR2.out)).mono ?_; rintro e W3 ⟨rfl, h3⟩; simp only [rdyV]; obtain ⟨HS3, f1, f2, f3, f4, f5, f6, f7, f8, f9, z1, z2, z3, z4, z5, z6, z7, z8, z9, z10⟩ := HN.out _ h3; have HK3 := Lib.hid h3; clear h3 k0 k1 k40 k41 k50 k51 l0 l1 l4 l5) | (refine ⟨trivial, ?_⟩; gi_at_call 20; refine (CallsIn.inRound l (callsIn_wide.2 (HRd _))).mono ?_; rintro e W4 ⟨rfl, hb4⟩; obtain ⟨HS4, k4a4, k4b4, l44, z4a4, z4b4, k5a4, k5b4, l54, z5a4, z5b4, m04, m14, m24, m34, m44, m54, m64, lg4⟩ := (HS3.out.below hb4).facts; clear hb4) | refine ⟨trivial, ?_⟩)
            exact FIN.out _ _ _ _ _ _ _ _ _ _ HS4.out (by simp [Acc.step, Acc.putR, Acc.putW, sdR, sdW, ← HQ.out, hrq])
          | true =>
            rw [hrq] at HRd
            gi_wp2_with (first | (refine ⟨trivial, ?_⟩; gi_at_call 19; refine (CallsIn.inRound l (callsIn_wide.2 HR2.out)).mono ?_; rintro e W3 ⟨rfl, h3⟩; simp only [rdyV]; obtain ⟨HS3, f1, f2, f3, f4, f5, f6, f7, f8, f9, z1, z2, z3, z4, z5, z6, z7, z8, z9, z10⟩ := HN.out _ h3; have HK3 := Lib.hid h3; clear h3 k0 k1 k40 k41 k50 k51 l0 l1 l4 l5) | (refine ⟨trivial, ?_⟩; gi_at_call 20; refine (CallsIn.inRound l (callsIn_wide.2 (HRd _))).mono ?_; rintro e W4 ⟨rfl, hb4⟩; obtain ⟨HS4, k4a4, k4b4, l44, z4a4, z4b4, k5a4, k5b4, l54, z5a4, z5b4, m04, m14, m24, m34, m44, m54, m64, lg4⟩ := (HS3.out.below hb4).facts; clear hb4) | (refine ⟨trivial, ?_⟩; gi_at_call_has 21 (Value.int .u32 (A.r0 : Int)); refine (CallsIn.inRound l (callsIn_wide.2 (Fs.with_in A.r0 A.r1 n _ hA0 hA1 hn64))).mono ?_; rintro e W5 ⟨rfl, hb5⟩; obtain ⟨HS5, k4a5, k4b5, l45, z4a5, z4b5, k5a5, k5b5, l55, z5a5, z5b5, m05, m15, m25, m35, m45, m55, m65, lg5⟩ := (HS4.out.below hb5).facts; clear hb5) | refine ⟨trivial, ?_⟩)
            exact FIN.out _ _ _ _ _ _ _ _ _ _ (HS5.out.putR (x := Fs.w0 A.r0 n) (y := Fs.w1 A.r1 n)) (by simp [Acc.step, Acc.putR, Acc.putW, sdR, sdW, ← HQ.out, hrq])
        · skip
          cases hwq : Rdy.w ⟨true, ri, ou, hu, er, rr, rw_⟩ with
          | false =>
            rw [hwq] at HWr
            gi_wp2_with (first | (refine ⟨trivial, ?_⟩; gi_at_call 19; refine (CallsIn.inRound l (callsIn_wide.2 HR2.out)).mono ?_; rintro e W3 ⟨rfl, h3⟩; simp only [rdyV]; obtain ⟨HS3, f1, f2, f3, f4, f5, f6, f7, f8, f9, z1, z2, z3, z4, z5, z6, z7, z8, z9, z10⟩ := HN.out _ h3; have HK3 := Lib.hid h3; clear h3 k0 k1 k40 k41 k50 k51 l0 l1 l4 l5) | (refine ⟨trivial, ?_⟩; gi_at_call 22; refine (CallsIn.inRound l (callsIn_wide.2 (HWr _))).mono ?_; rintro e W4 ⟨rfl, hb4⟩; obtain ⟨HS4, k4a4, k4b4, l44, z4a4, z4b4, k5a4, k5b4, l54, z5a4, z5b4, m04, m14, m24, m34, m44, m54, m64, lg4⟩ := (HS3.out.below hb4).facts; clear hb4) | refine ⟨trivial, ?_⟩)
            exact FIN.out _ _ _ _ _ _ _ _ _ _ HS4.out (by simp [Acc.step, Acc.putR, Acc.putW, sdR, sdW, ← HQ.out, hwq])
          | true =>
            rw [hwq] at HWr
            gi_wp2_with (first | (refine ⟨trivial, ?_⟩; gi_at_call 19; refine (CallsIn.inRound l (callsIn_wide.2 HR2.out)).mono ?_; rintro e W3 ⟨rfl, h3⟩; simp only [rdyV]; obtain ⟨HS3, f1, f2, f3, f4, f5, f6, f7, f8, f9, z1, z2, z3, z4, z5, z6, z7, z8, z9, z10⟩ := HN.out _ h3; have HK3 := Lib.hid h3; clear h3 k0 k1 k40 k41 k50 k51 l0 l1 l4 l5) | (refine ⟨trivial, ?_⟩; gi_at_call 22; refine (CallsIn.inRound l (callsIn_wide.2 (HWr _))).mono ?_; rintro e W4 ⟨rfl, hb4⟩; obtain ⟨HS4, k4a4, k4b4, l44, z4a4, z4b4, k5a4, k5b4, l54, z5a4, z5b4, m04, m14, m24, m34, m44, m54, m64, lg4⟩ := (HS3.out.below hb4).facts; clear hb4) | (refine ⟨trivial, ?_⟩; gi_at_call 21; refine (CallsIn.inRound l (callsIn_wide.2 (Fs.with_in A.s0 A.s1 n _ hA2 hA3 hn64))).mono ?_; rintro e W5 ⟨rfl, hb5⟩; obtain ⟨HS5, k4a5, k4b5, l45, z4a5, z4b5, k5a5, k5b5, l55, z5a5, z5b5, m05, m15, m25, m35, m45, m55, m65, lg5⟩ := (HS4.out.below hb5).facts; clear hb5) | refine ⟨trivial, ?_⟩)
            exact FIN.out _ _ _ _ _ _ _ _ _ _ (HS5.out.putW (x := Fs.w0 A.s0 n) (y := Fs.w1 A.s1 n)) (by simp [Acc.step, Acc.putR, Acc.putW, sdR, sdW, ← HQ.out, hwq])
        · skip
          cases hrq : Rdy.r ⟨true, ri, ou, hu, er, rr, rw_⟩ with
          | false =>
            rw [hrq] at HRd
            cases hwq : Rdy.w ⟨true, ri, ou, hu, er, rr, rw_⟩ with
            | false =>
              rw [hwq] at HWr
              gi_wp2_with (first | (refine ⟨trivial, ?_⟩; gi_at_call 19; refine (CallsIn.inRound l (callsIn_wide.2 HR2.out)).mono ?_; rintro e W3 ⟨rfl, h3⟩; simp only [rdyV]; obtain ⟨HS3, f1, f2, f3, f4, f5, f6, f7, f8, f9, z1, z2, z3, z4, z5, z6, z7, z8, z9, z10⟩ := HN.out _ h3; have HK3 := Lib.hid h3; clear h3 k0 k1 k40 k41 k50 k51 l0 l1 l4 l5) | (refine ⟨trivial, ?_⟩; gi_at_call 20; refine (CallsIn.inRound l (callsIn_wide.2 (HRd _))).mono ?_; rintro e W4 ⟨rfl, hb4⟩; obtain ⟨HS4, k4a4, k4b4, l44, z4a4, z4b4, k5a4, k5b4, l54, z5a4, z5b4, m04, m14, m24, m34, m44, m54, m64, lg4⟩ := (HS3.out.below hb4).facts; clear hb4) | (refine ⟨trivial, ?_⟩; gi_at_call 22; refine (CallsIn.inRound l (callsIn_wide.2 (HWr _))).mono ?_; rintro e W5 ⟨rfl, hb5⟩; obtain ⟨HS5, k4a5, k4b5, l45, z4a5, z4b5, k5a5, k5b5, l55, z5a5, z5b5, m05, m15, m25, m35, m45, m55, m65, lg5⟩ := (HS4.out.below hb5).facts; clear hb5) | refine ⟨trivial, ?_⟩)
              exact FIN.out _ _ _ _ _ _ _ _ _ _ HS5.out (by simp [Acc.step, Acc.putR, Acc.putW, sdR, sdW, ← HQ.out, hrq, hwq])
            | true =>
              rw [hwq] at HWr
              gi_wp2_with (first | (refine ⟨trivial, ?_⟩; gi_at_call 19; refine (CallsIn.inRound l (callsIn_wide.2 HR2.out)).mono ?_; rintro e W3 ⟨rfl, h3⟩; simp only [rdyV]; obtain ⟨HS3, f1, f2, f3, f4, f5, f6, f7, f8, f9, z1, z2, z3, z4, z5, z6, z7, z8, z9, z10⟩ := HN.out _ h3; have HK3 := Lib.hid h3; clear h3 k0 k1 k40 k41 k50 k51 l0 l1 l4 l5) | (refine ⟨trivial, ?_⟩; gi_at_call 20; refine (CallsIn.inRound l (callsIn_wide.2 (HRd _))).mono ?_; rintro e W4 ⟨rfl, hb4⟩; obtain ⟨HS4, k4a4, k4b4, l44, z4a4, z4b4, k5a4, k5b4, l54, z5a4, z5b4, m04, m14, m24, m34, m44, m54, m64, lg4⟩ := (HS3.out.below hb4).facts; clear hb4) | (refine ⟨trivial, ?_⟩; gi_at_call 22; refine (CallsIn.inRound l (callsIn_wide.2 (HWr _))).mono ?_; rintro e W5 ⟨rfl, hb5⟩; obtain ⟨HS5, k4a5, k4b5, l45, z4a5, z4b5, k5a5, k5b5, l55, z5a5, z5b5, m05, m15, m25, m35, m45, m55, m65, lg5⟩ := (HS4.out.below hb5).facts; clear hb5) | (refine ⟨trivial, ?_⟩; gi_at_call 21; refine (CallsIn.inRound l (callsIn_wide.2 (Fs.with_in A.s0 A.s1 n _ hA2 hA3 hn64))).mono ?_; rintro e W6 ⟨rfl, hb6⟩; obtain ⟨HS6, k4a6, k4b6, l46, z4a6, z4b6, k5a6, k5b6, l56, z5a6, z5b6, m06, m16, m26, m36, m46, m56, m66, lg6⟩ := (HS5.out.below hb6).facts; clear hb6) | refine ⟨trivial, ?_⟩)
              exact FIN.out _ _ _ _ _ _ _ _ _ _ (HS6.out.putW (x := Fs.w0 A.s0 n) (y := Fs.w1 A.s1 n)) (by simp [Acc.step, Acc.putR, Acc.putW, sdR, sdW, ← HQ.out, hrq, hwq])
          | true =>
            rw [hrq] at HRd
            cases hwq : Rdy.w ⟨true, ri, ou, hu, er, rr, rw_⟩ with
            | false =>
              rw [hwq] at HWr
              gi_wp2_with (first | (refine ⟨trivial, ?_⟩; gi_at_call 19; refine (CallsIn.inRound l (callsIn_wide.2 HR2.out)).mono ?_; rintro e W3 ⟨rfl, h3⟩; simp only [rdyV]; obtain ⟨HS3, f1, f2, f3, f4, f5, f6, f7, f8, f9, z1, z2, z3, z4, z5, z6, z7, z8, z9, z10⟩ := HN.out _ h3; have HK3 := Lib.hid h3; clear h3 k0 k1 k40 k41 k50 k51 l0 l1 l4 l5) | (refine ⟨trivial, ?_⟩; gi_at_call 20; refine (CallsIn.inRound l (callsIn_wide.2 (HRd _))).mono ?_; rintro e W4 ⟨rfl, hb4⟩; obtain ⟨HS4, k4a4, k4b4, l44, z4a4, z4b4, k5a4, k5b4, l54, z5a4, z5b4, m04, m14, m24, m34, m44, m54, m64, lg4⟩ := (HS3.out.below hb4).facts; clear hb4) | (refine ⟨trivial, ?_⟩; gi_at_call_has 21 (Value.int .u32 (A.r0 : Int)); refine (CallsIn.inRound l (callsIn_wide.2 (Fs.with_in A.r0 A.r1 n _ hA0 hA1 hn64))).mono ?_; rintro e W5 ⟨rfl, hb5⟩; obtain ⟨HS5, k4a5, k4b5, l45, z4a5, z4b5, k5a5, k5b5, l55, z5a5, z5b5, m05, m15, m25, m35, m45, m55, m65, lg5⟩ := (HS4.out.below hb5).facts; clear hb5) | (refine ⟨trivial, ?_⟩; gi_at_call 22; refine (CallsIn.inRound l (callsIn_wide.2 (HWr _))).mono ?_; rintro e W6 ⟨rfl, hb6⟩; obtain ⟨HS6, k4a6, k4b6, l46, z4a6, z4b6, k5a6, k5b6, l56, z5a6, z5b6, m06, m16, m26, m36, m46, m56, m66, lg6⟩ := ((HS5.out.putR (x := Fs.w0 A.r0 n) (y := Fs.w1 A.r1 n)).below hb6).facts; clear hb6) | refine ⟨trivial, ?_⟩)
              exact FIN.out _ _ _ _ _ _ _ _ _ _ HS6.out (by simp [Acc.step, Acc.putR, Acc.putW, sdR, sdW, ← HQ.out, hrq, hwq])
            | true =>
              rw [hwq] at HWr
              gi_wp2_with (first | (refine ⟨trivial, ?_⟩; gi_at_call 19; refine (CallsIn.inRound l (callsIn_wide.2 HR2.out)).mono ?_; rintro e W3 ⟨rfl, h3⟩; simp only [rdyV]; obtain ⟨HS3, f1, f2, f3, f4, f5, f6, f7, f8, f9, z1, z2, z3, z4, z5, z6, z7, z8, z9, z10⟩ := HN.out _ h3; have HK3 := Lib.hid h3; clear h3 k0 k1 k40 k41 k50 k51 l0 l1 l4 l5) | (refine ⟨trivial, ?_⟩; gi_at_call 20; refine (CallsIn.inRound l (callsIn_wide.2 (HRd _))).mono ?_; rintro e W4 ⟨rfl, hb4⟩; obtain ⟨HS4, k4a4, k4b4, l44, z4a4, z4b4, k5a4, k5b4, l54, z5a4, z5b4, m04, m14, m24, m34, m44, m54, m64, lg4⟩ := (HS3.out.below hb4).facts; clear hb4) | (refine ⟨trivial, ?_⟩; gi_at_call_has 21 (Value.int .u32 (A.r0 : Int)); refine (CallsIn.inRound l (callsIn_wide.2 (Fs.with_in A.r0 A.r1 n _ hA0 hA1 hn64))).mono ?_; rintro e W5 ⟨rfl, hb5⟩; obtain ⟨HS5, k4a5, k4b5, l45, z4a5, z4b5, k5a5, k5b5, l55, z5a5, z5b5, m05, m15, m25, m35, m45, m55, m65, lg5⟩ := (HS4.out.below hb5).facts; clear hb5) | (refine ⟨trivial, ?_⟩; gi_at_call 22; refine (CallsIn.inRound l (callsIn_wide.2 (HWr _))).mono ?_; rintro e W6 ⟨rfl, hb6⟩; obtain ⟨HS6, k4a6, k4b6, l46, z4a6, z4b6, k5a6, k5b6, l56, z5a6, z5b6, m06, m16, m26, m36, m46, m56, m66, lg6⟩ := ((HS5.out.putR (x := Fs.w0 A.r0 n) (y := Fs.w1 A.r1 n)).below hb6).facts; clear hb6) | (refine ⟨trivial, ?_⟩; gi_at_call 21; refine (CallsIn.inRound l (callsIn_wide.2 (Fs.with_in A.s0 A.s1 n _ hA2 hA3 hn64))).mono ?_; rintro e W7 ⟨rfl, hb7⟩; obtain ⟨HS7, k4a7, k4b7, l47, z4a7, z4b7, k5a7, k5b7, l57, z5a7, z5b7, m07, m17, m27, m37, m47, m57, m67, lg7⟩ := (HS6.out.below hb7).facts; clear hb7) | refine ⟨trivial, ?_⟩)
              exact FIN.out _ _ _ _ _ _ _ _ _ _ (HS7.out.putW (x := Fs.w0 A.s0 n) (y := Fs.w1 A.s1 n)) (by simp [Acc.step, Acc.putR, Acc.putW, sdR, sdW, ← HQ.out, hrq, hwq])
        -- END
  case done =>
    rintro xs W rfl ⟨A, hA, hs, hI⟩ hD hz
    have hsel := hs [] (by simp)
    have hDl : V.heap.size < W.heap.size := by omega
    have HS := Lib.hid (And.intro hA (And.intro hsel (And.intro hD hDl)))
    have HL1 := Lib.hid (fun W' => Fs.len_any A.r0 A.r1 W' hA.1 hA.2.1)
    have HL2 := Lib.hid (fun W' => Fs.len_any A.s0 A.s1 W' hA.2.2.1 hA.2.2.2)
    obtain ⟨HI0, c40a, -, c41a, -, -, c50a, -, c51a, -⟩ := (hI.below (W' := W.drew) ⟨rfl, rfl, rfl, Nat.le_refl _, fun _ _ => rfl⟩).facts
    clear hs hI hA hsel hD v8 v9 hTV hI0 hVs hDl hz
    gi_wp2_with fail
    refine wpIn_wide.2 ?_
    go_region_held3 (fun w' => w'.cell? ⟨w.heap.size + 1 + 1 + 1 + 1, 0, none⟩ = some (.int .u32 (A.r0 : Int)) ∧ w'.cell? ⟨w.heap.size + 1 + 1 + 1 + 1, 1, none⟩ = some (.int .u32 (A.r1 : Int)) ∧ w'.cell? ⟨w.heap.size + 1 + 1 + 1 + 1 + 1, 0, none⟩ = some (.int .u32 (A.s0 : Int)) ∧ w'.cell? ⟨w.heap.size + 1 + 1 + 1 + 1 + 1, 1, none⟩ = some (.int .u32 (A.s1 : Int))) (first | with_reducible exact ⟨c40a, c41a, c50a, c51a⟩ | with_reducible exact ⟨c40b, c41b, c50b, c51b⟩ | with_reducible exact ⟨c40c, c41c, c50c, c51c⟩ | with_reducible exact S4.setR ⟨c40c, c41c, c50c, c51c⟩ | with_reducible exact (S4.setR ⟨c40c, c41c, c50c, c51c⟩).setS | with_reducible exact ((S4.setR ⟨c40c, c41c, c50c, c51c⟩).setS).set6 _ | with_reducible exact (((S4.setR ⟨c40c, c41c, c50c, c51c⟩).setS).set6 _).set7 _) (first
      | (go_at_call_of 10 (Value.int .u32 (A.r0 : Int)); refine (HL1.out _).mono ?_; rintro e W4 ⟨rfl, hb4⟩; obtain ⟨HI4, c40b, -, c41b, -, -, c50b, -, c51b, -⟩ := (HI0.out.below hb4).facts; have HB4 := Lib.hid hb4; clear hb4)
      | (go_at_call_of 10 (Value.int .u32 (A.s0 : Int)); refine (HL2.out _).mono ?_; rintro e W5 ⟨rfl, hb5⟩; obtain ⟨HI5, c40c, z40c, c41c, z41c, l4c, c50c, z50c, c51c, z51c, l5c, c6c, z6c, l6c, c7c, z7c, l7c⟩ := (HI4.out.below hb5).facts; have HB5 := Lib.hid (Fs.below_endL HB4.out hb5); clear hb5))
    obtain ⟨hF, hk⟩ := HI5.out.fin (IntKind.i64.wrap (((Fs.memI A.r0 A.r1).length : Int) + ((Fs.memI A.s0 A.s1).length : Int))) 0 rfl
    have hw : IntKind.i64.wrap (((Fs.memI A.r0 A.r1).length : Int) + ((Fs.memI A.s0 A.s1).length : Int)) = (A.many : Int) := by
      have h1 := Fs.length_memI A.r0 A.r1
      have h2 := Fs.length_memI A.s0 A.s1
      rw [IntWalk.i64_in _ (by omega)]
      unfold Acc.many
      omega
    rw [hw] at hF hk ⊢
    have hD2 := (hk V.heap.size (by have := HVS.out; omega)).trans ((HB5.out.block V.heap.size HS.out.2.2.2).trans HS.out.2.2.1)
    have HF := Lib.hid (And.intro hF hD2)
    clear hF hk hD2
    gi_wp2_with fail
    rw [Exit.noGoto_ret]
    exact leaves_marks (w.heap.size + 8) [V.heap.size] _ (by simp) (fun D hD' => by simp at hD'; subst hD'; exact ⟨by have := HVS.out; omega, HF.out.2⟩) (fun W' hc => by
      obtain ⟨HJ, c40d, -, c41d, -, -, c50d, -, c51d, -, -, c6d, -, -, c7d, -⟩ := (HF.out.1.chR hc.toR (by omega)).facts
      have hv : selV rd top a b c d = .tuple #[setV A.r0 A.r1, setV A.s0 A.s1, .int .i64 (A.many : Int), .int .i64 0] := by unfold selV; rw [HS.out.2.1] <;> rfl
      exact ⟨_, by simp [results, Tryd.results6, go_sem, c40d, c41d, c50d, c51d, c6d, c7d]; exact hv.symm, rfl, HJ.out.bel⟩)
  case stop =>
    rintro cd pre W _ (⟨rfl, A, hA, hsel, hI⟩ | ⟨rfl, hsel, hI⟩) hD hz
    · have hDl : V.heap.size < W.heap.size := by omega
      have HS := Lib.hid (And.intro hA (And.intro hsel (And.intro hD hDl)))
      have HL1 := Lib.hid (fun W' => Fs.len_any A.r0 A.r1 W' hA.1 hA.2.1)
      have HL2 := Lib.hid (fun W' => Fs.len_any A.s0 A.s1 W' hA.2.2.1 hA.2.2.2)
      obtain ⟨HI0, c40a, -, c41a, -, -, c50a, -, c51a, -⟩ := (hI.below (W' := W.drew) ⟨rfl, rfl, rfl, Nat.le_refl _, fun _ _ => rfl⟩).facts
      clear hI hA hsel hD v8 v9 hTV hI0 hVs hDl hz
      gi_wp2_with fail
      refine wpIn_wide.2 ?_
      go_region_held3 (fun w' => w'.cell? ⟨w.heap.size + 1 + 1 + 1 + 1, 0, none⟩ = some (.int .u32 (A.r0 : Int)) ∧ w'.cell? ⟨w.heap.size + 1 + 1 + 1 + 1, 1, none⟩ = some (.int .u32 (A.r1 : Int)) ∧ w'.cell? ⟨w.heap.size + 1 + 1 + 1 + 1 + 1, 0, none⟩ = some (.int .u32 (A.s0 : Int)) ∧ w'.cell? ⟨w.heap.size + 1 + 1 + 1 + 1 + 1, 1, none⟩ = some (.int .u32 (A.s1 : Int))) (first | with_reducible exact ⟨c40a, c41a, c50a, c51a⟩ | with_reducible exact ⟨c40b, c41b, c50b, c51b⟩ | with_reducible exact ⟨c40c, c41c, c50c, c51c⟩ | with_reducible exact S4.setR ⟨c40c, c41c, c50c, c51c⟩ | with_reducible exact (S4.setR ⟨c40c, c41c, c50c, c51c⟩).setS | with_reducible exact ((S4.setR ⟨c40c, c41c, c50c, c51c⟩).setS).set6 _ | with_reducible exact (((S4.setR ⟨c40c, c41c, c50c, c51c⟩).setS).set6 _).set7 _) (first
        | (go_at_call_of 10 (Value.int .u32 (A.r0 : Int)); refine (HL1.out _).mono ?_; rintro e W4 ⟨rfl, hb4⟩; obtain ⟨HI4, c40b, -, c41b, -, -, c50b, -, c51b, -⟩ := (HI0.out.below hb4).facts; have HB4 := Lib.hid hb4; clear hb4)
        | (go_at_call_of 10 (Value.int .u32 (A.s0 : Int)); refine (HL2.out _).mono ?_; rintro e W5 ⟨rfl, hb5⟩; obtain ⟨HI5, c40c, z40c, c41c, z41c, l4c, c50c, z50c, c51c, z51c, l5c, c6c, z6c, l6c, c7c, z7c, l7c⟩ := (HI4.out.below hb5).facts; have HB5 := Lib.hid (Fs.below_endL HB4.out hb5); clear hb5))
      obtain ⟨hF, hk⟩ := HI5.out.fin (IntKind.i64.wrap (((Fs.memI A.r0 A.r1).length : Int) + ((Fs.memI A.s0 A.s1).length : Int))) 0 rfl
      have hw : IntKind.i64.wrap (((Fs.memI A.r0 A.r1).length : Int) + ((Fs.memI A.s0 A.s1).length : Int)) = (A.many : Int) := by
        have h1 := Fs.length_memI A.r0 A.r1
        have h2 := Fs.length_memI A.s0 A.s1
        rw [IntWalk.i64_in _ (by omega)]
        unfold Acc.many
        omega
      rw [hw] at hF hk ⊢
      have hD2 := (hk V.heap.size (by have := HVS.out; omega)).trans ((HB5.out.block V.heap.size HS.out.2.2.2).trans HS.out.2.2.1)
      have HF := Lib.hid (And.intro hF hD2)
      clear hF hk hD2
      gi_wp2_with fail
      rw [Exit.noGoto_ret]
      exact leaves_marks (w.heap.size + 8) [V.heap.size] _ (by simp) (fun D hD' => by simp at hD'; subst hD'; exact ⟨by have := HVS.out; omega, HF.out.2⟩) (fun W' hc => by
        obtain ⟨HJ, c40d, -, c41d, -, -, c50d, -, c51d, -, -, c6d, -, -, c7d, -⟩ := (HF.out.1.chR hc.toR (by omega)).facts
        have hv : selV rd top a b c d = .tuple #[setV A.r0 A.r1, setV A.s0 A.s1, .int .i64 (A.many : Int), .int .i64 0] := by unfold selV; rw [HS.out.2.1] <;> rfl
        exact ⟨_, by simp [results, Tryd.results6, go_sem, c40d, c41d, c50d, c51d, c6d, c7d]; exact hv.symm, rfl, HJ.out.bel⟩)
    · have HS := Lib.hid hsel
      have HF := Lib.hid (And.intro hI hD)
      clear hI hsel hD v8 v9 hTV hI0 hVs hz
      gi_wp2_with fail
      rw [Exit.noGoto_ret]
      exact leaves_marks (w.heap.size + 8) [V.heap.size] _ (by simp) (fun D hD' => by simp at hD'; subst hD'; exact ⟨by have := HVS.out; omega, HF.out.2⟩) (fun W' hc => by
        obtain ⟨HJ, c40d, -, c41d, -, -, c50d, -, c51d, -, -, c6d, -, -, c7d, -⟩ := (HF.out.1.chR hc.toR (by omega)).facts
        have hv : selV rd top a b c d = .tuple #[setV 0 0, setV 0 0, .int .i64 0, .int .i64 110] := by unfold selV; rw [HS.out] <;> rfl
        exact ⟨_, by simp [results, Tryd.results6, go_sem, c40d, c41d, c50d, c51d, c6d, c7d]; exact hv.symm, rfl, HJ.out.bel⟩)
end Go.Proofs.YtbbgnpnopodppaaDoor
