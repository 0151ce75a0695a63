/-
  Two tables of a law's, apart; what a list of pending signals is like.
-/
import Derived.Test.YtiancgjpjfejdaaSgLaw
namespace Go.Proofs.Ytiancgjpjfejdaa
open Go.RowKit

structure Tw (B : Nat) (W w : World) (k : Nat) (s : T) (j : Nat) (u : T) : Prop where
  a : Tb w k s
  b : Tb w j u
  ne : k ≠ j
  hk : B ≤ k
  hj : B ≤ j
  bel : Below B W w
section
variable {B : Nat} {W w w' : World} {k j : Nat} {s s' u u' : T} {n : Int} {on : Bool}
theorem Tw.size (O : Tw B W w k s j u) : B ≤ w.heap.size := by have := O.a.lt; have := O.hk; omega
theorem Tw.swap (O : Tw B W w k s j u) : Tw B W w j u k s := ⟨O.b, O.a, O.ne.symm, O.hj, O.hk, O.bel⟩
theorem Tw.step (O : Tw B W w k s j u) (h : Tb w' k s') (q : Kept (fun i => i = k) w w') : Tw B W w' k s' j u := ⟨h, O.b.kept q (fun e => O.ne e.symm), O.ne, O.hk, O.hj, O.bel.trans (q.below (fun i e => by subst e; exact O.hk) O.size)⟩
theorem Tw.below (O : Tw B W w k s j u) (hb : Below w.heap.size w w') : Tw B W w' k s j u := ⟨O.a.below hb, O.b.below hb, O.ne, O.hk, O.hj, O.bel.trans (hb.mono O.size)⟩
theorem Tw.drewN (O : Tw B W w k s j u) (n : Nat) : Tw B W (w.drewN n) k s j u := ⟨O.a.same rfl, O.b.same rfl, O.ne, O.hk, O.hj, below_drewN O.bel n⟩
theorem Tw.of (O : Ob B W w k s) (h : Tb w' w.heap.size u) (hb : Below w.heap.size w w') : Tw B W w' k s w.heap.size u := ⟨O.a.below hb, h, by have := O.a.lt; omega, O.hk, O.size, O.bel.trans (hb.mono O.size)⟩
theorem Tw.handle (O : Tw B W w k s j u) (n : Int) (on : Bool) :
    Calls Try.prog 9 #[.pointer (some ⟨k, 0, none⟩), .int .i64 n, .bool on] w fun x w' => x = .returned (.int .i64 (code n)) ∧ Tw B W w' k (s.handle n on) j u :=
  (handle_any O.a n on).mono fun _ _ ⟨e, h, q⟩ => ⟨e, O.step h q⟩
theorem Tw.raise (O : Tw B W w k s j u) (n : Int) (hc : s.le 2147483646) :
    Calls Try.prog 11 #[.pointer (some ⟨k, 0, none⟩), .int .i64 n] w fun x w' => x = .returned (.int .i64 (code n)) ∧ Tw B W w' k (s.rise n) j u :=
  (raise_any O.a n hc).mono fun _ _ ⟨e, h, q⟩ => ⟨e, O.step h q⟩
theorem Tw.pending (O : Tw B W w k s j u) (hc : s.le 2147483647) :
    Calls Try.prog 19 #[.pointer (some ⟨k, 0, none⟩)] w fun x w' => x = .returned (.int .i64 (s.sum : Int)) ∧ Tw B W w' k s j u :=
  (pending_any O.a hc).mono fun _ _ ⟨e, h⟩ => ⟨e, O.below h⟩
theorem Tw.list (O : Tw B W w k s j u) :
    Calls Try.prog 16 #[.pointer (some ⟨k, 0, none⟩)] w fun x w' => ∃ A c, x = .returned (.slice A (s.list 32).length c) ∧ Tw B W w' k s j u :=
  (list_any O.a).mono fun _ _ ⟨v, e, h1, h⟩ => by
    obtain ⟨A, c, rfl, _⟩ := RowK.own_shows h1
    exact ⟨A, c, e, O.below h⟩
/-- What Take answers, and leaves, beside another table. -/
def TakenT (B : Nat) (W w : World) (k : Nat) (s : T) (j : Nat) (u : T) (x : Ending) (w' : World) : Prop := ∃ v, x = .returned v ∧ RC.own w' w.heap.size v (s.pend 32) ∧ Tw B W w' k s.idle j u ∧ Kept (fun i => i = k) w w'
theorem Tw.take (O : Tw B W w k s j u) : Calls Try.prog 13 #[.pointer (some ⟨k, 0, none⟩)] w (TakenT B W w k s j u) :=
  (take_any O.a).mono fun _ _ ⟨v, e, h1, h2, q⟩ => ⟨v, e, h1, O.step h2 q, q⟩
end

/-- What is pending rises, each at least once. -/
theorem pend_rise (s : T) (k : Nat) {i j : Nat} {x y : Nat × Nat} (hx : (s.pend k)[i]? = some x) (hy : (s.pend k)[j]? = some y) (hij : i < j) : x.1 < y.1 := by
  have hp : ((List.range k).filter fun i => s.c i != 0).Pairwise (· < ·) := List.pairwise_lt_range.filter _
  unfold T.pend at hx hy
  rw [List.getElem?_map] at hx hy
  obtain ⟨a, ha, rfl⟩ := Option.map_eq_some_iff.1 hx
  obtain ⟨b, hb, rfl⟩ := Option.map_eq_some_iff.1 hy
  obtain ⟨hi, ea⟩ := List.getElem?_eq_some_iff.1 ha
  obtain ⟨hj, eb⟩ := List.getElem?_eq_some_iff.1 hb
  have := List.pairwise_iff_getElem.1 hp i j hi hj hij
  rw [ea, eb] at this
  exact this
theorem pend_mem {s : T} {k : Nat} {x : Nat × Nat} (h : x ∈ s.pend k) : x.1 < k ∧ x.2 = s.c x.1 ∧ 1 ≤ x.2 := by
  unfold T.pend at h
  obtain ⟨i, hi, rfl⟩ := List.mem_map.1 h
  obtain ⟨h1, h2⟩ := List.mem_filter.1 hi
  have h3 : s.c i ≠ 0 := by simpa using h2
  exact ⟨List.mem_range.1 h1, rfl, by show 1 ≤ s.c i; omega⟩
theorem pend_more {s t : T} (h : ∀ i, s.c i ≠ 0 → t.c i ≠ 0) (k : Nat) : (s.pend k).length ≤ (t.pend k).length := by
  unfold T.pend
  rw [List.length_map, List.length_map]
  have e : (List.range k).filter (fun i => s.c i != 0) = ((List.range k).filter (fun i => t.c i != 0)).filter (fun i => s.c i != 0) := by
    rw [List.filter_filter]
    apply List.filter_congr
    intro i _
    by_cases hs : s.c i = 0
    · simp [hs]
    · simp [hs, h i hs]
  rw [e]
  exact List.length_filter_le _ _
end Go.Proofs.Ytiancgjpjfejdaa
