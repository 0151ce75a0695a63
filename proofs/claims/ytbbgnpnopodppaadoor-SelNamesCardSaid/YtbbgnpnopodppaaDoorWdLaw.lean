/-
  A world that a law made; the calls of the laws; the chapter's first examples.
-/
import Derived.Test.YtbbgnpnopodppaaDoorWdOut
namespace Go.Proofs.YtbbgnpnopodppaaDoor
open Go.RowKit Go.Maps Go.ChangeMaps

theorem Wi.le_write {x : Wi} {N : Nat} (h : x.le N) (k : Bool) (zs : List Int) : (x.write k zs).2.2.le (N + zs.length + 1) := by
  unfold Wi.write
  repeat' split
  all_goals first | exact h.mono (by omega) | exact Wi.le_fill h _ _
theorem Wi.le_read {x : Wi} {N : Nat} (h : x.le N) (k : Bool) (m : Int) : (x.read k m).2.2.2.le (N + 1) := by
  unfold Wi.read
  repeat' split
  all_goals first | exact h.mono (by omega) | exact Wi.le_drain h _ _
theorem Wi.le_putO {x : Wi} {N : Nat} (h : x.le N) (zs : List Int) : (x.putO zs).2.2.le (N + zs.length + 1) := by
  unfold Wi.putO
  repeat' split
  all_goals first | exact h.mono (by omega) | exact Wi.le_fill h _ _
theorem Wi.le_takeO {x : Wi} {N : Nat} (h : x.le N) (m : Int) : (x.takeO m).2.2.le (N + 1) := by
  unfold Wi.takeO
  repeat' split
  all_goals first | exact h.mono (by omega) | exact Wi.le_drain h _ _

/-- A world that the law made: it lies from B on; W is the law's first world; the blocks of D stand beside it. -/
def Od (B : Nat) (W : World) (p : Nat) (S : Ws) (N : Nat) (D : Nat → Prop) (w : World) : Prop := ∃ L, L.p = p ∧ Wd w B L S ∧ Below B W w ∧ S.le N ∧ ∀ b, D b → Beside w L b
/-- What a call leaves. -/
def OdM (B : Nat) (W : World) (p : Nat) (S : Ws) (N : Nat) (D : Nat → Prop) (w w' : World) : Prop := Od B W p S N D w' ∧ (∀ b, D b → w'.heap[b]? = w.heap[b]?) ∧ w.heap.size ≤ w'.heap.size
section
variable {B : Nat} {W w w' : World} {p : Nat} {S S' : Ws} {N : Nat} {D D' : Nat → Prop}
theorem Wd.belowMv {L L' : Lay} (h : Wd w B L S) (m : Mv w w' L.F L'.F) : Below B w w' := m.below (fun _ hk => (h.ltF hk).2) h.hs
theorem Od.bel (h : Od B W p S N D w) : Below B W w := by obtain ⟨L, _, _, h3, _⟩ := h; exact h3
theorem Od.base (h : Od B W p S N D w) : B ≤ w.heap.size := by obtain ⟨L, _, h2, _, _⟩ := h; exact h2.hs
theorem Od.le (h : Od B W p S N D w) : S.le N := by obtain ⟨L, _, _, _, h4, _⟩ := h; exact h4
theorem Od.more {M : Nat} (h : Od B W p S N D w) (hN : N ≤ M) : Od B W p S M D w := by obtain ⟨L, h1, h2, h3, h4, h5⟩ := h; exact ⟨L, h1, h2, h3, h4.mono hN, h5⟩
theorem Od.less (h : Od B W p S N D w) (hD : ∀ b, D' b → D b) : Od B W p S N D' w := by obtain ⟨L, h1, h2, h3, h4, h5⟩ := h; exact ⟨L, h1, h2, h3, h4, fun b hb => h5 b (hD b hb)⟩
theorem below_drewN2 {B : Nat} {w w' : World} (h : Below B w w') (n : Nat) : Below B w (w'.drewN n) := ⟨h.os, h.tape, h.output, h.size, h.block⟩
theorem Od.drewN (h : Od B W p S N D w) (q : Nat) : Od B W p S N D (w.drewN q) := by obtain ⟨L, h1, h2, h3, h4, h5⟩ := h; exact ⟨L, h1, h2.drewN q, below_drewN2 h3 q, h4, h5⟩
theorem Od.alloc (h : Od B W p S N D w) (o : Obj) : Od B W p S N (fun b => b = w.heap.size ∨ D b) (w.alloc o) := by
  obtain ⟨L, h1, h2, h3, h4, h5⟩ := h
  refine ⟨L, h1, h2.keeps ((Kept.refl (fun _ => False) w).alloc o) (fun _ _ e => e), h3.alloc h2.hs o, h4, fun b hb => ?_⟩
  rcases hb with rfl | hb
  · exact ⟨by simp, fun e => by have := (h2.ltF e).1; omega⟩
  · exact ⟨by have := (h5 b hb).1; simp; omega, (h5 b hb).2⟩
theorem Od.below (h : Od B W p S N D w) (hb : Below w.heap.size w w') : Od B W p S N D w' := by
  obtain ⟨L, h1, h2, h3, h4, h5⟩ := h
  exact ⟨L, h1, h2.below hb, h3.trans (hb.mono h2.hs), h4, fun b hb' => ⟨Nat.lt_of_lt_of_le (h5 b hb').1 hb.size, (h5 b hb').2⟩⟩
theorem Od.lt (h : Od B W p S N D w) {b : Nat} (hb : D b) : b < w.heap.size := by obtain ⟨L, _, _, _, _, h5⟩ := h; exact (h5 b hb).1
/-- A block beside a world is written. -/
theorem Od.wrote (h : Od B W p S N D w) {G : Nat → Prop} (k : Kept G w w') (hG : ∀ b, G b → D b ∧ B ≤ b) : Od B W p S N D w' := by
  obtain ⟨L, h1, h2, h3, h4, h5⟩ := h
  exact ⟨L, h1, h2.keeps k (fun b hb hg => (h5 b (hG b hg).1).2 hb), h3.trans (k.below (fun b hb => (hG b hb).2) h2.hs), h4, fun b hb => ⟨Nat.lt_of_lt_of_le (h5 b hb).1 k.size, (h5 b hb).2⟩⟩
theorem Od.keptM (h : Od B W p S N D w) (k : Kept (fun _ => False) w w') : OdM B W p S N D w w' := ⟨h.below (k.below (fun _ e => e.elim) (Nat.le_refl _)), fun b hb => k.block b (h.lt hb) (fun e => e), k.size⟩
/-- After a call. -/
theorem Od.go {L L' : Lay} (h1 : L.p = p) (h2 : Wd w B L S) (h3 : Below B W w) (h5 : ∀ b, D b → Beside w L b) (k1 : Wd w' B L' S') (k2 : L'.p = L.p) (k3 : Mv w w' L.F L'.F) {M : Nat} (h4 : S'.le M) : OdM B W p S' M D w w' :=
  ⟨⟨L', k2.trans h1, k1, h3.trans (h2.belowMv k3), h4, fun b hb => ((h5 b hb).mv k3).1⟩, fun b hb => ((h5 b hb).mv k3).2, k3.k.size⟩
theorem Od.turned {L : Lay} (h1 : L.p = p) (h2 : Wd w B L S) (h3 : Below B W w) (h4 : S.le N) (h5 : ∀ b, D b → Beside w L b) {i : Nat} {y : Wi} {M : Nat} (ht : Turned w B L S i y w') (hy : y.le M) (hM : N ≤ M) : OdM B W p (S.setW i y) M D w w' := by
  obtain ⟨L', k1, k2, k3⟩ := ht
  exact Od.go h1 h2 h3 h5 k1 k2.p k3 (Ws.le_setW (h4.mono hM) hy)
theorem Od.new (hB : B ≤ w.heap.size) (hb : Below B W w) : Calls Tryd.prog 13 #[] w fun e w' => ∃ p, e = .returned (.pointer (some ⟨p, 0, none⟩)) ∧ Od B W p Ws.new 0 (fun _ => False) w' := by
  refine (wNew_any w B hB).mono ?_
  rintro e w' ⟨L, rfl, h1, h2, _⟩
  exact ⟨L.p, rfl, L, rfl, h1, hb.trans (h2.mono hB), fun i x hx => by simp [Ws.new] at hx, fun _ e => e.elim⟩
/-- What Read leaves in a law. -/
def ReadO (B : Nat) (W : World) (p : Nat) (S : Ws) (N : Nat) (D : Nat → Prop) (i : Nat) (r : List Int × Bool × Int × Wi) (w : World) (e : Ending) (w' : World) : Prop := ∃ v, e = .returned (.tuple #[v, .bool r.2.1, .int .i64 r.2.2.1]) ∧ RowB w' w.heap.size v r.1 ∧ OdM B W p (S.setW i r.2.2.2) (N + 1) D w w' ∧ Od B W p (S.setW i r.2.2.2) (N + 1) (fun b => v.ownBlock = some b ∨ D b) w'
/-- What Take leaves in a law. -/
def TakeO (B : Nat) (W : World) (p : Nat) (S : Ws) (N : Nat) (D : Nat → Prop) (i : Nat) (r : List Int × Int × Wi) (w : World) (e : Ending) (w' : World) : Prop := ∃ v, e = .returned (.tuple #[v, .int .i64 r.2.1]) ∧ RowB w' w.heap.size v r.1 ∧ OdM B W p (S.setW i r.2.2) (N + 1) D w w' ∧ Od B W p (S.setW i r.2.2) (N + 1) (fun b => v.ownBlock = some b ∨ D b) w'
theorem Od.ready (h : Od B W p S N D w) {n : Int} {i : Nat} {k : Bool} {x : Wi} (hf : S.fd n = some (i, k)) (hx : S.ws[i]? = some x) {R : Rdy} (hR : x.ready k = R) :
    Calls Tryd.prog 19 #[.pointer (some ⟨p, 0, none⟩), .int .i64 n] w fun e w' => e = .returned (rdyV R) ∧ OdM B W p S N D w w' := by
  subst hR
  have h0 := h
  obtain ⟨L, rfl, h2, h3, h4, h5⟩ := h
  refine (wReady_any h2 hf hx).mono ?_
  rintro e w' ⟨rfl, k⟩
  exact ⟨rfl, h0.keptM k⟩
theorem Ws.le_opened {s : Ws} {i : Nat} (h : s.le N) (k : Bool) (fd : Nat) : (s.opened i k fd).le N := by
  unfold Ws.opened
  split
  · rename_i x hx
    exact Ws.le_setW h (Wi.le_mark (h i x hx) k 1)
  · exact h
theorem Od.outer (h : Od B W p S N D w) (n : Nat) (hn : 1 ≤ n) (hm : n ≤ 65536) (hw : S.ws.length < 1000) {fd : Nat} (hf : S.frees[0]? = some fd) :
    Calls Tryd.prog 15 #[.pointer (some ⟨p, 0, none⟩), .int .i64 (n : Int)] w fun e w' => e = .returned (.tuple #[.int .i64 (fd : Int), .int .i64 (S.ws.length : Int), .int .i64 0]) ∧ OdM B W p ((S.addW (outW n)).opened S.ws.length false fd) N D w w' := by
  obtain ⟨L, rfl, h2, h3, h4, h5⟩ := h
  refine (wOuter_ok h2 n hn hm hw (by have := (List.getElem?_eq_some_iff.1 hf).1; omega)).mono ?_
  rintro e w' ⟨fd', hf', rfl, L', k1, k2, k3⟩
  rw [hf] at hf'
  cases hf'
  exact ⟨rfl, Od.go rfl h2 h3 h5 k1 k2.p k3 (Ws.le_opened (Ws.le_addW h4 (Wi.le_mark (Wi.le_new n 2 N) true 2)) _ _)⟩
end

/-- A world with one outer wire. -/
def S1 (x : Wi) : Ws := ⟨0, [x], fun f => if f = 0 then some (0, false) else none, T.new, none⟩
theorem S1_outer (n : Nat) : (Ws.new.addW (outW n)).opened Ws.new.ws.length false 0 = S1 ((outW n).mark false 1) := rfl
theorem S1_set (x y : Wi) : (S1 x).setW 0 y = S1 y := rfl
theorem S1_fd (x : Wi) : (S1 x).fd 0 = some (0, false) := rfl
theorem S1_get (x : Wi) : (S1 x).ws[0]? = some x := rfl
theorem S1_out (x : Wi) (h : (x.e true).is = 2) : (S1 x).outer 0 = some x := Ws.outer_of (S1_get x) h
theorem frees_new : Ws.new.frees[0]? = some 0 := by decide

end Go.Proofs.YtbbgnpnopodppaaDoor
