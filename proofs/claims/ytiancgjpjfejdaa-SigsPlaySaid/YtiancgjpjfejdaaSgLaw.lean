/-
  For the laws over tables: a table that the law made; the chapter's first examples.
-/
import Derived.Test.YtiancgjpjfejdaaSgTake
namespace Go.Proofs.Ytiancgjpjfejdaa
open Go.RowKit

theorem below_drewN {B : Nat} {w w' : World} (h : Below B w w') (n : Nat) : Below B w (w'.drewN n) := ⟨h.os, h.tape, h.output, h.size, h.block⟩
/-- A table that the law made. -/
structure Ob (B : Nat) (W w : World) (k : Nat) (s : T) : Prop where
  a : Tb w k s
  hk : B ≤ k
  bel : Below B W w
section
variable {B : Nat} {W w w' : World} {k : Nat} {s s' : T} {n : Int} {on : Bool}
theorem Ob.size (O : Ob B W w k s) : B ≤ w.heap.size := by have := O.a.lt; have := O.hk; omega
theorem Ob.step (O : Ob B W w k s) (h : Tb w' k s') (q : Kept (fun i => i = k) w w') : Ob B W w' k s' := ⟨h, O.hk, O.bel.trans (q.below (fun i e => by subst e; exact O.hk) O.size)⟩
theorem Ob.below (O : Ob B W w k s) (hb : Below w.heap.size w w') : Ob B W w' k s := ⟨O.a.below hb, O.hk, O.bel.trans (hb.mono O.size)⟩
theorem Ob.new (hB : B ≤ W.heap.size) {w : World} (hb : Below B W w) (hs : B ≤ w.heap.size) : Calls Try.prog 8 #[] w fun x w' => x = .returned (.pointer (some ⟨w.heap.size, 0, none⟩)) ∧ Ob B W w' w.heap.size T.new :=
  (new_any w).mono fun _ _ ⟨e, h, q⟩ => ⟨e, h, hs, hb.trans (q.below (fun _ e => e.elim) hs)⟩
theorem Ob.handle (O : Ob B W w k s) (n : Int) (on : Bool) :
    Calls Try.prog 9 #[.pointer (some ⟨k, 0, none⟩), .int .i64 n, .bool on] w fun x w' => x = .returned (.int .i64 (code n)) ∧ Ob B W w' k (s.handle n on) :=
  (handle_any O.a n on).mono fun _ _ ⟨e, h, q⟩ => ⟨e, O.step h q⟩
theorem Ob.raise (O : Ob B W w k s) (n : Int) (hc : s.le 2147483646) :
    Calls Try.prog 11 #[.pointer (some ⟨k, 0, none⟩), .int .i64 n] w fun x w' => x = .returned (.int .i64 (code n)) ∧ Ob B W w' k (s.rise n) :=
  (raise_any O.a n hc).mono fun _ _ ⟨e, h, q⟩ => ⟨e, O.step h q⟩
theorem Ob.pending (O : Ob B W w k s) (hc : s.le 2147483647) :
    Calls Try.prog 19 #[.pointer (some ⟨k, 0, none⟩)] w fun x w' => x = .returned (.int .i64 (s.sum : Int)) ∧ Ob B W w' k s :=
  (pending_any O.a hc).mono fun _ _ ⟨e, h⟩ => ⟨e, O.below h⟩
/-- What Take answers, and leaves, in a law. -/
def TakenO (B : Nat) (W w : World) (k : Nat) (s : T) (x : Ending) (w' : World) : Prop := ∃ v, x = .returned v ∧ RC.own w' w.heap.size v (s.pend 32) ∧ Ob B W w' k s.idle
theorem Ob.take (O : Ob B W w k s) : Calls Try.prog 13 #[.pointer (some ⟨k, 0, none⟩)] w (TakenO B W w k s) :=
  (take_any O.a).mono fun _ _ ⟨v, e, h1, h2, q⟩ => ⟨v, e, h1, O.step h2 q⟩
end

/-- A pair of a row. -/
theorem rc_at {w : World} {B : Nat} {v : Value} {xs : List (Nat × Nat)} (h : RC.own w B v xs) {i : Nat} {x : Nat × Nat} (hx : xs[i]? = some x) :
    ∃ g c, v = .slice (some ⟨g, 0, none⟩) xs.length c ∧ g < w.heap.size ∧ w.cell? ⟨g, i * 2, none⟩ = some (.int .i64 (x.1 : Int)) ∧ w.cell? ⟨g, i * 2 + 1, none⟩ = some (.int .i64 (x.2 : Int)) := by
  rcases RowK.own_form h with ⟨_, rfl⟩ | ⟨g, c, rfl, _, hg, _, hl⟩
  · simp at hx
  · refine ⟨g, c, rfl, hg, ?_, ?_⟩
    · have := hl i x hx 0 (by decide)
      rw [Nat.zero_add] at this
      exact this
    · have := hl i x hx 1 (by decide)
      rw [Nat.zero_add] at this
      exact this

theorem eq_21 (w : World) : (binOp .eql 38 (.agg #[.int .i64 2, .int .i64 1]) (.agg #[.int .i64 2, .int .i64 1])).run Try.prog w = .ok (.bool true) w := by kernel_rfl
theorem eq_92 (w : World) : (binOp .eql 38 (.agg #[.int .i64 9, .int .i64 2]) (.agg #[.int .i64 9, .int .i64 2])).run Try.prog w = .ok (.bool true) w := by kernel_rfl

def aliveT : T := (((((T.new.handle 2 true).handle 9 true).rise 9).rise 2).rise 9).rise 5
set_option maxRecDepth 100000 in
theorem alive_any (w : World) : Calls Try.prog 20 #[] w fun x w' => x = .returned (.bool true) ∧ Below w.heap.size w w' := by
  go_enter Try.func20, Try.ntmps20
  go_wp2_with fail
  refine (Ob.new (Nat.le_refl _) (Below.refl _ w) (Nat.le_refl _)).mono ?_
  rintro e w1 ⟨rfl, O⟩
  have HT := Lib.hid (O.handle 2 true)
  clear O
  go_wp2_with fail
  refine HT.out.mono ?_
  rintro e w2 ⟨rfl, O⟩
  rw [show code 2 = 0 from by decide]
  have HT := Lib.hid (O.handle 9 true)
  clear O
  go_wp2_with fail
  refine HT.out.mono ?_
  rintro e w3 ⟨rfl, O⟩
  rw [show code 9 = 0 from by decide]
  have HT := Lib.hid (O.raise 9 (fun i => Nat.le_trans (T.le_handle (T.le_handle (T.le_new 0) 2 true) 9 true i) (by omega)))
  clear O
  go_wp2_with fail
  refine HT.out.mono ?_
  rintro e w4 ⟨rfl, O⟩
  rw [show code 9 = 0 from by decide]
  have HT := Lib.hid (O.raise 2 (fun i => Nat.le_trans (T.le_rise (T.le_handle (T.le_handle (T.le_new 0) 2 true) 9 true) 9 i) (by omega)))
  clear O
  go_wp2_with fail
  refine HT.out.mono ?_
  rintro e w5 ⟨rfl, O⟩
  rw [show code 2 = 0 from by decide]
  have HT := Lib.hid (O.raise 9 (fun i => Nat.le_trans (T.le_rise (T.le_rise (T.le_handle (T.le_handle (T.le_new 0) 2 true) 9 true) 9) 2 i) (by omega)))
  clear O
  go_wp2_with fail
  refine HT.out.mono ?_
  rintro e w6 ⟨rfl, O⟩
  rw [show code 9 = 0 from by decide]
  have HT := Lib.hid (O.raise 5 (fun i => Nat.le_trans (T.le_rise (T.le_rise (T.le_rise (T.le_handle (T.le_handle (T.le_new 0) 2 true) 9 true) 9) 2) 9 i) (by omega)))
  clear O
  go_wp2_with fail
  refine HT.out.mono ?_
  rintro e w7 ⟨rfl, O⟩
  rw [show code 5 = 0 from by decide]
  have HO : Hid (Ob w.heap.size w w7 w.heap.size aliveT) := Lib.hid O
  have hle : aliveT.le 2147483647 := fun i => Nat.le_trans (T.le_rise (T.le_rise (T.le_rise (T.le_rise (T.le_handle (T.le_handle (T.le_new 0) 2 true) 9 true) 9) 2) 9) 5 i) (by omega)
  have HT := Lib.hid (HO.out.pending hle)
  clear O hle HO
  go_wp2_with fail
  refine HT.out.mono ?_
  rintro e w8 ⟨rfl, O⟩
  rw [show aliveT.sum = 3 from by decide]
  have HT := Lib.hid O.take
  clear O
  go_wp2_with fail
  refine HT.out.mono ?_
  rintro e w9 ⟨v, rfl, hrow, O⟩
  rw [show aliveT.pend 32 = [(2, 1), (9, 2)] from by decide] at hrow
  obtain ⟨g, c, rfl, lg, x0, x1⟩ := rc_at hrow (i := 0) (x := (2, 1)) rfl
  obtain ⟨g', c', e, _, y0, y1⟩ := rc_at hrow (i := 1) (x := (9, 2)) rfl
  obtain rfl : g = g' := by injection e with e1; injection e1 with e1; injection e1
  simp at x0 x1 y0 y1
  have HT := Lib.hid (O.pending (s := aliveT.idle) (T.le_idle _ _))
  have ec1 := eq_21
  have ec2 := eq_92
  clear O hrow
  go_wp2_with fail
  refine HT.out.mono ?_
  rintro e w10 ⟨rfl, O⟩
  have h0 : aliveT.idle.sum = 0 := by decide
  rw [h0]
  have HE := Lib.hid O.bel
  clear O h0
  go_wp2_with fail
  go_ret
  exact ⟨rfl, HE.out⟩

/-- A call: its kind, and its signal. -/
structure Cal where
  k : Int
  s : Int
/-- A slice of calls that came in. -/
def ArgOps (w : World) (A : Option Addr) (l : List Cal) : Prop :=
  0 < l.length → ∃ b off, A = some ⟨b, off, none⟩ ∧ b < w.heap.size ∧ ∀ (i : Nat) (x : Cal), l[i]? = some x → w.cell? ⟨b, off + i * 2, none⟩ = some (.int .i64 x.k) ∧ w.cell? ⟨b, off + i * 2 + 1, none⟩ = some (.int .i64 x.s)
theorem ArgOps.at_ {w wr : World} {A : Option Addr} {l : List Cal} (h : ArgOps w A l) (hb : Below w.heap.size w wr) {k : Nat} (hk : k < l.length) :
    ∃ b off x, A = some ⟨b, off, none⟩ ∧ b < wr.heap.size ∧ l[k]? = some x ∧ wr.cell? ⟨b, off + k * 2, none⟩ = some (.int .i64 x.k) ∧ wr.cell? ⟨b, off + k * 2 + 1, none⟩ = some (.int .i64 x.s) := by
  obtain ⟨b, off, e, hlt, hc⟩ := h (by omega)
  have hz := List.getElem?_eq_getElem hk
  obtain ⟨h0, h1⟩ := hc k _ hz
  exact ⟨b, off, _, e, Nat.lt_of_lt_of_le hlt hb.size, hz, (hb.cell (p := ⟨b, _, none⟩) hlt).trans h0, (hb.cell (p := ⟨b, _, none⟩) hlt).trans h1⟩
theorem ArgOps.cells {w wr : World} {b off : Nat} {l : List Cal} (h : ArgOps w (some ⟨b, off, none⟩) l) (hb : Below w.heap.size w wr) {k : Nat} {x : Cal} (hx : l[k]? = some x) :
    b < wr.heap.size ∧ wr.cell? ⟨b, off + k * 2, none⟩ = some (.int .i64 x.k) ∧ wr.cell? ⟨b, off + k * 2 + 1, none⟩ = some (.int .i64 x.s) := by
  obtain ⟨b', off', y, e, h1, h2, h3, h4⟩ := h.at_ hb (List.getElem?_eq_some_iff.1 hx).1
  injection e with e; injection e with e1 e2
  subst e1; subst e2
  rw [hx] at h2
  cases h2
  exact ⟨h1, h3, h4⟩
end Go.Proofs.Ytiancgjpjfejdaa
