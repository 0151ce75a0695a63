/-
  The reader in memory: its block, the rows that it gathers, what a method of it leaves.
-/
import Derived.Test.YtlephnfepofbbaaGreatDoorMvData
namespace Go.Proofs.YtlephnfepofbbaaGreatDoor
open Go.RowKit Go.Shelf Go.Maps Go.ChangeMaps

def RIn : RowK Tryz.prog Int where
  e := 3
  s := 34
  n := 1
  bytes := 8
  zero := .int .i64 0
  enc := fun z => [.int .i64 z]
  pos := by decide
  by_ := by decide
  len := fun _ => rfl
  one := fun x u hu => by
    simp at hu
    subst hu; rfl
  und := Tryz.underlying34
  info := by kernel_rfl
  zs := rfl
structure Ms where
  m : Mo
  A : Option Addr
  c : Nat
def Ms.v (p : Ms) : Value := .slice p.A p.m.b.length p.c
def RM : RowK Tryz.prog Ms where
  e := 25
  s := 26
  n := 4
  bytes := 48
  zero := .agg #[.int .i64 0, .int .i64 0, .int .i64 0, .slice none 0 0]
  enc := fun p => [.int .i64 p.m.op, .int .i64 p.m.wire, .int .i64 p.m.n, .slice p.A p.m.b.length p.c]
  pos := by decide
  by_ := by decide
  len := fun _ => rfl
  one := fun x u hu => by
    simp at hu
    rcases hu with rfl | rfl | rfl | rfl <;> rfl
  und := Tryz.underlying26
  info := by kernel_rfl
  zs := rfl

/-- The rows that a reader gathers, its own from N on. -/
structure Rws (N : Nat) (ov mvv dv : Value) (ord : List Int) (ms : List Mo) (b : List UInt8) (W : World) : Prop where
  ord : RIn.own W N ov ord
  mvs : ∃ ps : List Ms, ps.map Ms.m = ms ∧ RM.own W N mvv ps ∧ ∀ p ∈ ps, OwB N W p.v p.m.b
  dat : OwB N W dv b
theorem OwB.far {B : Nat} {W W' : World} {v : Value} {bs : List UInt8} (h : OwB B W v bs) (k : ∀ i, B ≤ i → i < W.heap.size → W'.heap[i]? = W.heap[i]?) : OwB B W' v bs := h.same fun g e hg => by
  rcases h.2 with ⟨rfl, _⟩ | ⟨g', cap, cur, rfl, hb, _⟩
  · cases e
  · have : g' = g := Option.some.inj e
    subst this; exact k _ hb hg
theorem RowK.own_far {α : Type} {R : RowK Tryz.prog α} {B : Nat} {W W' : World} {v : Value} {xs : List α} (h : R.own W B v xs) (k : ∀ i, B ≤ i → i < W.heap.size → W'.heap[i]? = W.heap[i]?) : R.own W' B v xs := RowK.own_same h fun i e => k i (RowK.own_lt h e).2 (RowK.own_lt h e).1
theorem OwB.oth {B : Nat} {W W' : World} {v : Value} {bs : List UInt8} (h : OwB B W v bs) {T : TypeId} (k : Lib.OthersKept T none W W') (hT : 5 ≠ T) : OwB B W' v bs := h.same fun g e _ => by
  obtain ⟨c, fz, hg⟩ := Lib.ownsRow_kind h g e
  rw [hg]
  exact k g _ hg (by simp) (fun c' fz' e' => hT (by injection e'))
theorem RowK.own_oth {α : Type} {R : RowK Tryz.prog α} {B : Nat} {W W' : World} {v : Value} {xs : List α} (h : R.own W B v xs) {T : TypeId} (k : Lib.OthersKept T none W W') (hT : R.e ≠ T) : R.own W' B v xs := RowK.own_same h fun g e => by
  obtain ⟨c, fz, hg⟩ := Lib.ownsRow_kind h g e
  rw [hg]
  exact k g _ hg (by simp) (fun c' fz' e' => hT (by injection e'))
section
variable {N g : Nat} {ov mvv dv : Value} {ord : List Int} {ms : List Mo} {b : List UInt8} {W W' : World}
theorem Rws.far (h : Rws N ov mvv dv ord ms b W) (k : ∀ i, N ≤ i → i < W.heap.size → W'.heap[i]? = W.heap[i]?) : Rws N ov mvv dv ord ms b W' := by
  obtain ⟨h1, ⟨ps, e, h2, h3⟩, h4⟩ := h
  exact ⟨RowK.own_far h1 k, ⟨ps, e, RowK.own_far h2 k, fun p hp => (h3 p hp).far k⟩, h4.far k⟩
theorem Rws.below (h : Rws N ov mvv dv ord ms b W) (k : Below W.heap.size W W') : Rws N ov mvv dv ord ms b W' := h.far fun i _ hi => k.block i hi
theorem Rws.set (h : Rws N ov mvv dv ord ms b W) (hg : g < N) (i : Nat) (v : Value) : Rws N ov mvv dv ord ms b (W.setCell ⟨g, i, none⟩ v) := h.far fun k hk _ => Below.heap_setCell W _ v k (by show k ≠ g; omega)
theorem Rws.alloc (h : Rws N ov mvv dv ord ms b W) (o : Obj) : Rws N ov mvv dv ord ms b (W.alloc o) := h.far fun k _ hk => Below.heap_alloc W o k hk
theorem Rws.drewN (h : Rws N ov mvv dv ord ms b W) (q : Nat) : Rws N ov mvv dv ord ms b (W.drewN q) := h.far fun _ _ _ => rfl
/-- Another number in the order. -/
theorem Rws.ordg (h : Rws N ov mvv dv ord ms b W) {ov' : Value} {ord' : List Int} (ho : RIn.own W' N ov' ord') (hg : W.grownBy W' ov.ownBlock) : Rws N ov' mvv dv ord' ms b W' := by
  obtain ⟨h1, ⟨ps, e, h2, h3⟩, h4⟩ := h
  have k : Lib.OthersKept 3 none W W' := (Lib.OthersKept.refl _ _ _).grown hg (Lib.ownsRow_kind h1)
  exact ⟨ho, ⟨ps, e, RowK.own_oth h2 k (by decide), fun p hp => (h3 p hp).oth k (by decide)⟩, h4.oth k (by decide)⟩
/-- Another move. -/
theorem Rws.mvg (h : Rws N ov mvv dv ord ms b W) {mvv' : Value} {ps : List Ms} {p : Ms} (e : ps.map Ms.m = ms) (hx : RM.own W N mvv ps) (hy : ∀ p ∈ ps, OwB N W p.v p.m.b) (hp : OwB N W p.v p.m.b) (ho : RM.own W' N mvv' (ps ++ [p])) (hg : W.grownBy W' mvv.ownBlock) : Rws N ov mvv' dv ord (ms ++ [p.m]) b W' := by
  obtain ⟨h1, _, h4⟩ := h
  have k : Lib.OthersKept 25 none W W' := (Lib.OthersKept.refl _ _ _).grown hg (Lib.ownsRow_kind hx)
  refine ⟨RowK.own_oth h1 k (by decide), ⟨ps ++ [p], by simp [e], ho, fun q hq => ?_⟩, h4.oth k (by decide)⟩
  rcases List.mem_append.1 hq with hq | hq
  · exact (hy q hq).oth k (by decide)
  · have : q = p := by simpa using hq
    subst this; exact hp.oth k (by decide)
end

/-- What a reader's method keeps: all below N but its own block, and all that is no block of cells. -/
structure Fs (N g : Nat) (w w' : World) : Prop where
  k : Kept (fun i => i = g ∨ N ≤ i) w w'
  o : KeepsOthers w w'
section
variable {N g : Nat} {w w' w'' : World}
theorem Fs.refl (N g : Nat) (w : World) : Fs N g w w := ⟨Kept.refl _ _, KeepsOthers.refl _⟩
theorem Fs.trans (h : Fs N g w w') (k : Fs N g w' w'') : Fs N g w w'' := ⟨h.k.trans k.k, h.o.trans k.o⟩
theorem Fs.of (h : Below w.heap.size w w') : Fs N g w w' := ⟨Kept.of_below h, ⟨h.size, fun k o hk _ => (h.block k (Array.getElem?_eq_some_iff.1 hk).1).trans hk⟩⟩
theorem Fs.set (w : World) (i : Nat) (v : Value) : Fs N g w (w.setCell ⟨g, i, none⟩ v) := ⟨(Kept.refl _ w).setCell (p := ⟨g, i, none⟩) (.inl rfl) v, KeepsOthers.setCell _ _ _⟩
theorem Fs.grown {α : Type} {R : RowK Tryz.prog α} {v : Value} {xs : List α} (hown : R.own w N v xs) (hg : w.grownBy w' v.ownBlock) : Fs N g w w' :=
  ⟨(Kept.refl _ w).grown hg (fun k e _ => .inr (RowK.own_lt hown e).2), KeepsOthers.of_grownBy hg (fun j o e ho => by
    obtain ⟨c, fz, hc⟩ := Lib.ownsRow_kind hown j e
    rw [hc] at ho; injection ho with ho; rw [← ho]; rfl)⟩
theorem Fs.below (h : Fs N g w w') (hg : g ≤ N) (hs : g ≤ w.heap.size) : Below g w w' := h.k.below (fun k hk => by rcases hk with hk | hk <;> omega) hs
theorem Fs.at_ (h : Fs N g w w') {k : Nat} (hk : k < N) (hkg : k ≠ g) (hs : k < w.heap.size) : w'.heap[k]? = w.heap[k]? := h.k.block k hs (fun e => by omega)
theorem Fs.size (h : Fs N g w w') : w.heap.size ≤ w'.heap.size := h.k.size
end

/-- The reader's state. -/
def Rdm (N g : Nat) (nx : Nat) (st : St) (mv : Mo) (W : World) : Prop := ∃ ov mvv dv,
  Blk W g 127 #[.int .i64 (nx : Int), .int .u64 (st.t : Int), .bool st.intr, ov, mvv, .int .i64 mv.op, .int .i64 mv.wire, .int .i64 mv.n, dv] ∧ Rws N ov mvv dv st.ord st.mv mv.b W
/-- The reader's block, whatever it holds. -/
def Rdx (g : Nat) (W : World) : Prop := ∃ cs, Blk W g 127 cs ∧ cs.size = 9
/-- What a method leaves. -/
def MethR (N g nx : Nat) (w : World) (o : Option Rd) (e : Ending) (w' : World) : Prop := Fs N g w w' ∧ match o with
  | some r => e = .returned (.int .i64 (r.next : Int)) ∧ Rdm N g nx r.st r.mv w'
  | none => e = .returned (.int .i64 9) ∧ Rdx g w'
/-- Where a reader's method begins. -/
structure RdE (N g : Nat) (W : World) : Prop where
  lt : g < N
  le : N ≤ W.heap.size
  env : Env g W
theorem RdE.on {N g : Nat} {W W' : World} (h : RdE N g W) (f : Fs N g W W') : RdE N g W' := ⟨h.lt, Nat.le_trans h.le f.size, h.env.below (f.below (Nat.le_of_lt h.lt) (Nat.le_trans (Nat.le_of_lt h.lt) h.le))⟩
theorem Rdm.quiet {N g nx : Nat} {st : St} {mv : Mo} {W W' : World} (h : Rdm N g nx st mv W) (k : Below W.heap.size W W') : Rdm N g nx st mv W' := by
  obtain ⟨ov, mvv, dv, h1, h2⟩ := h
  exact ⟨ov, mvv, dv, h1.same (k.block _ h1.lt), h2.below k⟩
theorem Rdm.x {N g nx : Nat} {st : St} {mv : Mo} {W : World} (h : Rdm N g nx st mv W) : Rdx g W := by
  obtain ⟨ov, mvv, dv, h1, h2⟩ := h
  exact ⟨_, h1, rfl⟩
end Go.Proofs.YtlephnfepofbbaaGreatDoor
