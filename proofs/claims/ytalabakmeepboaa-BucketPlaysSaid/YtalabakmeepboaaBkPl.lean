/-
  The bucket beside the reference's; the law's own copy of a call.
-/
import Derived.Test.YtalabakmeepboaaBkRef2
import Derived.Test.YtalabakmeepboaaBkWhen
namespace Go.Proofs.Ytalabakmeepboaa
open Go.RowKit

/-- A call of the law. -/
structure Cal where
  k : Int
  t : Int
  n : Int
  m : Int
  e : Int
  b : Int
structure Cal.Ok (x : Cal) : Prop where
  k : I x.k
  t : U x.t
  n : I x.n
  m : I x.m
  e : U x.e
  b : I x.b
def encC (x : Cal) : Array Value := #[.int .i64 x.k, .int .u64 x.t, .int .i64 x.n, .int .i64 x.m, .int .u64 x.e, .int .i64 x.b]
/-- A slice of calls that came in. -/
def ArgOps (w : World) (A : Option Addr) (l : List Cal) : Prop :=
  (∀ x ∈ l, x.Ok) ∧ (0 < l.length → ∃ b off, A = some ⟨b, off, none⟩ ∧ b < w.heap.size ∧
    ∀ i x, l[i]? = some x → w.cell? ⟨b, off + i * 6, none⟩ = some (.int .i64 x.k) ∧ w.cell? ⟨b, off + i * 6 + 1, none⟩ = some (.int .u64 x.t) ∧ w.cell? ⟨b, off + i * 6 + 2, none⟩ = some (.int .i64 x.n) ∧
      w.cell? ⟨b, off + i * 6 + 3, none⟩ = some (.int .i64 x.m) ∧ w.cell? ⟨b, off + i * 6 + 4, none⟩ = some (.int .u64 x.e) ∧ w.cell? ⟨b, off + i * 6 + 5, none⟩ = some (.int .i64 x.b))
theorem ArgOps.at_ {w wr : World} {A : Option Addr} {l : List Cal} (h : ArgOps w A l) (hb : Below w.heap.size w wr) {i : Nat} (hi : i < l.length) :
    ∃ b off x, A = some ⟨b, off, none⟩ ∧ b < w.heap.size ∧ l[i]? = some x ∧ x.Ok ∧ wr.cell? ⟨b, off + i * 6, none⟩ = some (.int .i64 x.k) ∧ wr.cell? ⟨b, off + i * 6 + 1, none⟩ = some (.int .u64 x.t) ∧ wr.cell? ⟨b, off + i * 6 + 2, none⟩ = some (.int .i64 x.n) ∧
      wr.cell? ⟨b, off + i * 6 + 3, none⟩ = some (.int .i64 x.m) ∧ wr.cell? ⟨b, off + i * 6 + 4, none⟩ = some (.int .u64 x.e) ∧ wr.cell? ⟨b, off + i * 6 + 5, none⟩ = some (.int .i64 x.b) := by
  obtain ⟨b, off, e, hlt, hc⟩ := h.2 (by omega)
  have hz := List.getElem?_eq_getElem hi
  obtain ⟨a0, a1, a2, a3, a4, a5⟩ := hc i _ hz
  exact ⟨b, off, _, e, hlt, hz, h.1 _ (List.mem_of_getElem? hz), (hb.cell (p := ⟨b, _, none⟩) hlt).trans a0, (hb.cell (p := ⟨b, _, none⟩) hlt).trans a1, (hb.cell (p := ⟨b, _, none⟩) hlt).trans a2, (hb.cell (p := ⟨b, _, none⟩) hlt).trans a3, (hb.cell (p := ⟨b, _, none⟩) hlt).trans a4, (hb.cell (p := ⟨b, _, none⟩) hlt).trans a5⟩

/-- Both. -/
structure P2 (w wr : World) (k r : Nat) (s u : S) : Prop where
  a : Bk wr k s
  b : Rk wr r u
  ne : k ≠ r
  hk : w.heap.size ≤ k
  hr : w.heap.size ≤ r
  bel : Below w.heap.size w wr
/-- Both, and the round's call. -/
structure Px (w wr : World) (k r xk : Nat) (x : Cal) (s u : S) : Prop where
  p : P2 w wr k r s u
  X : Blk wr xk 36 (encC x)
  nk : xk ≠ k
  nr : xk ≠ r
section
variable {w wr w1 : World} {k r xk : Nat} {x : Cal} {s u s' : S}
theorem Rsd.bel {B : Nat} (h : Rsd wr k s w1) (hk : B ≤ k) (hlt : k < wr.heap.size) : Below B wr w1 := h.2.below (fun i e => by subst e; exact hk) (by omega)
theorem P2.prog (h : P2 w wr k r s u) (q : Psd wr k s' w1) : P2 w w1 k r s' u := ⟨q.1, h.b.kept q.2 (fun e => h.ne e.symm), h.ne, h.hk, h.hr, h.bel.trans (q.bel h.hk h.a.lt)⟩
theorem P2.ref (h : P2 w wr k r s u) (q : Rsd wr r s' w1) : P2 w w1 k r s s' := ⟨h.a.kept q.2 h.ne, q.1, h.ne, h.hk, h.hr, h.bel.trans (q.bel h.hr h.b.lt)⟩
theorem P2.drewN (h : P2 w wr k r s u) (n : Nat) : P2 w (wr.drewN n) k r s u := ⟨h.a.drewN n, h.b.drewN n, h.ne, h.hk, h.hr, below_drewN h.bel n⟩
theorem P2.alloc (h : P2 w wr k r s u) (o : Obj) : P2 w (wr.alloc o) k r s u := ⟨h.a.alloc o, h.b.alloc o, h.ne, h.hk, h.hr, h.bel.alloc h.bel.size o⟩
theorem Px.new (h : P2 w wr k r s u) (x : Cal) : Px w (wr.alloc (.cells (encC x) 36)) k r wr.heap.size x s u :=
  ⟨h.alloc _, Blk.new _ _ _, fun e => by have := h.a.lt; omega, fun e => by have := h.b.lt; omega⟩
theorem Px.prog (h : Px w wr k r xk x s u) (q : Psd wr k s' w1) : Px w w1 k r xk x s' u := ⟨h.p.prog q, h.X.kept q.2 h.nk, h.nk, h.nr⟩
theorem Px.ref (h : Px w wr k r xk x s u) (q : Rsd wr r s' w1) : Px w w1 k r xk x s s' := ⟨h.p.ref q, h.X.kept q.2 h.nr, h.nk, h.nr⟩
theorem Px.drewN (h : Px w wr k r xk x s u) (n : Nat) : Px w (wr.drewN n) k r xk x s u := ⟨h.p.drewN n, h.X.same rfl, h.nk, h.nr⟩
theorem Px.drew (h : Px w wr k r xk x s u) : Px w wr.drew k r xk x s u := ⟨⟨h.p.a.drew, h.p.b.drew, h.p.ne, h.p.hk, h.p.hr, h.p.bel.drew⟩, h.X.same rfl, h.nk, h.nr⟩
/-- What a region reads of the call. -/
def XC (xk : Nat) (x : Cal) (w : World) : Prop := w.cell? ⟨xk, 1, none⟩ = some (.int .u64 x.t) ∧ w.cell? ⟨xk, 2, none⟩ = some (.int .i64 x.n) ∧ w.cell? ⟨xk, 3, none⟩ = some (.int .i64 x.m) ∧ w.cell? ⟨xk, 4, none⟩ = some (.int .u64 x.e) ∧ w.cell? ⟨xk, 5, none⟩ = some (.int .i64 x.b)
theorem Px.cells (h : Px w wr k r xk x s u) : XC xk x wr := ⟨h.X.cell 1, h.X.cell 2, h.X.cell 3, h.X.cell 4, h.X.cell 5⟩

theorem Px.take (h : Px w wr k r xk x s u) (hx : x.Ok) :
    Calls Try.prog 12 #[.pointer (some ⟨k, 0, none⟩), .int .u64 x.t, .int .i64 x.n] wr fun e w' => e = .returned (.int .i64 (takeN (s.pass x.t) x.n)) ∧ Px w w' k r xk x ((s.pass x.t).less (takeN (s.pass x.t) x.n)) u :=
  (take_any h.p.a hx.t hx.n).mono fun _ _ ⟨e, q⟩ => ⟨e, h.prog q⟩
theorem Px.rtake (h : Px w wr k r xk x s u) (hx : x.Ok) :
    Calls Try.prog 13 #[.pointer (some ⟨r, 0, none⟩), .int .u64 x.t, .int .i64 x.n] wr fun e w' => e = .returned (.int .i64 (takeN (u.pass x.t) x.n)) ∧ Px w w' k r xk x s ((u.pass x.t).less (takeN (u.pass x.t) x.n)) :=
  (Go.Proofs.Ytalabakmeepboaa.rtake h.p.b hx.t hx.n).mono fun _ _ ⟨e, q⟩ => ⟨e, h.ref q⟩
theorem Px.bor (h : Px w wr k r xk x s u) (hx : x.Ok) :
    Calls Try.prog 14 #[.pointer (some ⟨k, 0, none⟩), .int .u64 x.t, .int .i64 x.n] wr fun e w' => e = .returned (.int .i64 (borN (s.pass x.t) x.n)) ∧ Px w w' k r xk x (borS (s.pass x.t) x.n) u :=
  (bor_any h.p.a hx.t hx.n).mono fun _ _ ⟨e, q⟩ => ⟨e, h.prog q⟩
theorem Px.rbor (h : Px w wr k r xk x s u) (hx : x.Ok) :
    Calls Try.prog 15 #[.pointer (some ⟨r, 0, none⟩), .int .u64 x.t, .int .i64 x.n] wr fun e w' => e = .returned (.int .i64 (borN (u.pass x.t) x.n)) ∧ Px w w' k r xk x s (borS (u.pass x.t) x.n) :=
  (Go.Proofs.Ytalabakmeepboaa.rbor h.p.b hx.t hx.n).mono fun _ _ ⟨e, q⟩ => ⟨e, h.ref q⟩
theorem Px.when_ (h : Px w wr k r xk x s u) (hx : x.Ok) :
    Calls Try.prog 16 #[.pointer (some ⟨k, 0, none⟩), .int .u64 x.t, .int .i64 x.n] wr fun e w' => e = .returned (.int .u64 (whenN (s.pass x.t) x.t x.n)) ∧ Px w w' k r xk x (s.pass x.t) u :=
  (when_any h.p.a hx.t hx.n).mono fun _ _ ⟨e, q⟩ => ⟨e, h.prog q⟩
theorem Px.rwhen (h : Px w wr k r xk x s u) (hx : x.Ok) :
    Calls Try.prog 17 #[.pointer (some ⟨r, 0, none⟩), .int .u64 x.t, .int .i64 x.n] wr fun e w' => e = .returned (.int .u64 (whenN (u.pass x.t) x.t x.n)) ∧ Px w w' k r xk x s (u.pass x.t) :=
  (Go.Proofs.Ytalabakmeepboaa.rwhen h.p.b hx.t hx.n).mono fun _ _ ⟨e, q⟩ => ⟨e, h.ref q⟩
theorem Px.set_ (h : Px w wr k r xk x s u) (hx : x.Ok) :
    Calls Try.prog 18 #[.pointer (some ⟨k, 0, none⟩), .int .u64 x.t, .agg #[.int .i64 x.m, .int .u64 x.e, .int .i64 x.b]] wr fun e w' => e = .returned (.int .i64 (setN x.m x.e x.b)) ∧ Px w w' k r xk x (setS s x.t x.m x.e x.b) u :=
  (set_any h.p.a hx.t).mono fun _ _ ⟨e, q⟩ => ⟨e, h.prog q⟩
theorem Px.rset (h : Px w wr k r xk x s u) (hx : x.Ok) :
    Calls Try.prog 19 #[.pointer (some ⟨r, 0, none⟩), .int .u64 x.t, .int .i64 x.m, .int .u64 x.e, .int .i64 x.b] wr fun e w' => e = .returned (.int .i64 (setN x.m x.e x.b)) ∧ Px w w' k r xk x s (setS u x.t x.m x.e x.b) :=
  (Go.Proofs.Ytalabakmeepboaa.rset h.p.b hx.t).mono fun _ _ ⟨e, q⟩ => ⟨e, h.ref q⟩
theorem Px.have_ (h : Px w wr k r xk x s u) (hx : x.Ok) :
    Calls Try.prog 21 #[.pointer (some ⟨k, 0, none⟩), .int .u64 x.t] wr fun e w' => e = .returned (.int .i64 (s.pass x.t).t) ∧ Px w w' k r xk x (s.pass x.t) u :=
  (have_any h.p.a hx.t).mono fun _ _ ⟨e, q⟩ => ⟨e, h.prog q⟩
theorem Px.comes (h : Px w wr k r xk x s u) (hx : x.Ok) :
    Calls Try.prog 20 #[.pointer (some ⟨r, 0, none⟩), .int .u64 x.t] wr fun e w' => e = .returned (.tuple #[]) ∧ Px w w' k r xk x s (u.pass x.t) :=
  (rcomes h.p.b hx.t).mono fun _ _ ⟨e, q⟩ => ⟨e, h.ref q⟩
end
/-- Behind a round's call: both are alike. -/
def PlMid (w : World) (k r xk : Nat) (x : Cal) (W : World) : Prop := ∃ s, Px w W k r xk x s s
end Go.Proofs.Ytalabakmeepboaa
