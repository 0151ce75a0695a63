/-
  Steps that have been read, in memory: their row, and each one's rows.
-/
import Derived.Test.YtlephnfepofbbaaGreatDoorMvLineM
import Derived.Test.YtlephnfepofbbaaGreatDoorMvParseM
namespace Go.Proofs.YtlephnfepofbbaaGreatDoor
open Go.RowKit Go.Shelf Go.Maps Go.ChangeMaps

structure Ss where
  x : St
  A : Option Addr
  a : Nat
  B : Option Addr
  b : Nat
def Ss.o (p : Ss) : Value := .slice p.A p.x.ord.length p.a
def Ss.m (p : Ss) : Value := .slice p.B p.x.mv.length p.b
def RT : RowK Tryz.prog Ss where
  e := 36
  s := 37
  n := 4
  bytes := 64
  zero := .agg #[.int .u64 0, .bool false, .slice none 0 0, .slice none 0 0]
  enc := fun p => [.int .u64 (p.x.t : Int), .bool p.x.intr, .slice p.A p.x.ord.length p.a, .slice p.B p.x.mv.length p.b]
  pos := by decide
  by_ := by decide
  len := fun _ => rfl
  one := fun x u hu => by
    simp at hu
    rcases hu with rfl | rfl | rfl | rfl <;> rfl
  und := Tryz.underlying37
  info := by kernel_rfl
  zs := rfl
/-- The steps read so far. -/
structure PsR (N : Nat) (v : Value) (ps : List Ss) (W : World) : Prop where
  own : RT.own W N v ps
  all : ∀ p ∈ ps, Rws N p.o p.m (.slice none 0 0) p.x.ord p.x.mv [] W
theorem Rws.oth {N : Nat} {ov mvv dv : Value} {ord : List Int} {ms : List Mo} {b : List UInt8} {W W' : World} (h : Rws N ov mvv dv ord ms b W) {T : TypeId} (k : Lib.OthersKept T none W W') (h1 : 3 ≠ T) (h2 : 25 ≠ T) (h3 : 5 ≠ T) : Rws N ov mvv dv ord ms b W' := by
  obtain ⟨a1, ⟨ps, e, a2, a3⟩, a4⟩ := h
  exact ⟨RowK.own_oth a1 k h1, ⟨ps, e, RowK.own_oth a2 k h2, fun p hp => (a3 p hp).oth k h3⟩, a4.oth k h3⟩
section
variable {N : Nat} {v : Value} {ps : List Ss} {W W' : World}
theorem PsR.nil (N : Nat) (W : World) : PsR N (.slice none 0 0) [] W := ⟨RowK.own_nil _ _, fun p hp => by cases hp⟩
theorem PsR.far (h : PsR N v ps W) (k : ∀ i, N ≤ i → i < W.heap.size → W'.heap[i]? = W.heap[i]?) : PsR N v ps W' := ⟨RowK.own_far h.own k, fun p hp => (h.all p hp).far k⟩
theorem PsR.below (h : PsR N v ps W) (k : Below W.heap.size W W') : PsR N v ps W' := h.far fun i _ hi => k.block i hi
theorem PsR.set (h : PsR N v ps W) {q : Nat} (hq : q < N) (i : Nat) (u : Value) : PsR N v ps (W.setCell ⟨q, i, none⟩ u) := h.far fun k hk _ => Below.heap_setCell W _ u k (by show k ≠ q; omega)
theorem PsR.put (h : PsR N v ps W) {row : Option Nat} (hg : W.grownBy W' row) (hr : ∀ r, row = some r → ∃ o : Obj, W.heap[r]? = some o ∧ o.isCells = false) : PsR N v ps W' := by
  refine ⟨RowK.own_same h.own fun k e => hg.block k (RowK.own_lt h.own e).1 (fun e2 => ?_), fun p hp => (h.all p hp).put hg hr⟩
  obtain ⟨o, ho, hc⟩ := hr k e2.symm
  obtain ⟨c, fz, hk⟩ := Lib.ownsRow_kind h.own k e
  rw [hk] at ho
  injection ho with ho
  subst ho; cases hc
/-- One more. -/
theorem PsR.more (h : PsR N v ps W) {v' : Value} {p : Ss} (hp : Rws N p.o p.m (.slice none 0 0) p.x.ord p.x.mv [] W) (ho : RT.own W' N v' (ps ++ [p])) (hg : W.grownBy W' v.ownBlock) : PsR N v' (ps ++ [p]) W' := by
  have k : Lib.OthersKept 36 none W W' := (Lib.OthersKept.refl _ _ _).grown hg (Lib.ownsRow_kind h.own)
  refine ⟨ho, fun q hq => ?_⟩
  rcases List.mem_append.1 hq with hq | hq
  · exact (h.all q hq).oth k (by decide) (by decide) (by decide)
  · have : q = p := by simpa using hq
    subst this; exact hp.oth k (by decide) (by decide) (by decide)
theorem rt_all (ps : List Ss) : RT.all ps = (ps.map fun p => (p.x, p.o, p.m)).flatMap encS := by
  unfold RowK.all
  induction ps with
  | nil => rfl
  | cons p ps ih => rw [List.flatMap_cons, ih]; rfl
/-- They can be read by whoever reads steps. -/
theorem PsR.src (h : PsR N v ps W) : SrcS (Lt W.heap.size) W v (ps.map Ss.x) := by
  refine ⟨ps.map fun p => (p.x, p.o, p.m), by rw [List.map_map]; rfl, ?_, fun q hq => ?_⟩
  · have := sh_own h.own
    rw [rt_all] at this
    rw [List.length_map]; exact this
  · obtain ⟨p, hp, rfl⟩ := List.mem_map.1 hq
    exact (h.all p hp).step
end
end Go.Proofs.YtlephnfepofbbaaGreatDoor
