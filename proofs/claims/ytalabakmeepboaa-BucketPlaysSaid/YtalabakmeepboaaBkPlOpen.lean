/-
  For BucketPlays: a slice of calls that comes in.
-/
import Derived.Test.YtalabakmeepboaaBkOpen
import Derived.Test.YtalabakmeepboaaBkPlays
namespace Go.Proofs.Ytalabakmeepboaa
open Go.ChangeShapes Go.WideShapes Go.ChangeAt Go.RowKit Go.Deep

instance : Inhabited Cal := ⟨⟨0, 0, 0, 0, 0, 0⟩⟩
theorem cellsOp : Try.prog.cellsOf 36 = 6 := by kernel_rfl
theorem cellsInt : Try.prog.cellsOf 3 = 1 := by kernel_rfl

set_option maxRecDepth 100000 in
theorem open_cals {H : Type} {enc : TypeId × Value → H} {W : World} {base b0 : Nat} {held : Bool} {r : Reach} {v : Value} {d : DataW H} {p : List MemPlace}
    (hv : Value.okWide Try.prog W r b0 25 v) (h : DataW.Trod enc Try.prog W base (fun _ => true) held 25 v d p) : ∃ A l c, v = .slice A l.length c ∧ ArgOps W A l := by
  obtain ⟨a0, len0, cap0, rfl⟩ := okWide_slice Try.underlying25 hv
  obtain ⟨fuel, hf⟩ := h
  rcases open_slice Try.underlying25 hf with ⟨hcs, _⟩ | ⟨a, len, cap, m, n, D, Pl, hcs, hb, hl, hm, hmm, hx, hi⟩
  · simp [Value.cells] at hcs
    obtain ⟨rfl, rfl, rfl⟩ := hcs
    exact ⟨none, [], 0, rfl, fun x hx => by simp at hx, fun h => by simp at h⟩
  · simp [Value.cells] at hcs
    obtain ⟨rfl, rfl, rfl⟩ := hcs
    have hlm : len0 ≤ m := by rw [hmm]; split <;> omega
    have each : ∀ i, i < m → ∃ x : Cal, x.Ok ∧ W.cell? (a.add (i * 6)) = some (.int .i64 x.k) ∧ W.cell? (a.add (i * 6 + 1)) = some (.int .u64 x.t) ∧ W.cell? (a.add (i * 6 + 2)) = some (.int .i64 x.n) ∧ W.cell? (a.add (i * 6 + 3)) = some (.int .i64 x.m) ∧ W.cell? (a.add (i * 6 + 4)) = some (.int .u64 x.e) ∧ W.cell? (a.add (i * 6 + 5)) = some (.int .i64 x.b) := by
      intro i him
      obtain ⟨cs', h1, h2⟩ := hi i him
      rw [cellsOp] at h1
      obtain ⟨_, hlen, hcell⟩ := World.cells?_some h1
      obtain ⟨xs, k, hk, hxy, _, hxl, hf⟩ := DataW.trod_struct Try.underlying36 h2
      match xs, hxl, cs', hlen with
      | [y0, y1, y2, y3], _, [v0, v1, v2, v3, v4, v5], _ =>
        have g0 := hf 0 _ rfl
        have g1 := hf 1 _ rfl
        have g2 := hf 2 _ rfl
        have g3 := hf 3 _ rfl
        simp [cellsI, cellsU, cellsInt, cellsRate] at g0 g1 g2 g3
        obtain ⟨x0, f0, _, q0⟩ := DataW.trod_int Try.underlying3 g0
        obtain ⟨x1, f1, _, q1⟩ := DataW.trod_int Try.underlying22 g1
        obtain ⟨x2, f2, _, q2⟩ := DataW.trod_int Try.underlying2 g2
        obtain ⟨zs, k2, hk2, hzy, _, hzl, hf2⟩ := DataW.trod_struct Try.underlying24 g3
        match zs, hzl with
        | [z0, z1, z2], _ =>
          have j0 := hf2 0 _ rfl
          have j1 := hf2 1 _ rfl
          have j2 := hf2 2 _ rfl
          simp [cellsI, cellsU] at j0 j1 j2
          have e0 := hcell 0 (by omega)
          have e1 := hcell 1 (by omega)
          have e2 := hcell 2 (by omega)
          have e3 := hcell 3 (by omega)
          have e4 := hcell 4 (by omega)
          have e5 := hcell 5 (by omega)
          rw [add_add] at e0 e1 e2 e3 e4 e5
          obtain ⟨x3, f3, _, q3⟩ := DataW.trod_int Try.underlying2 j0
          obtain ⟨x4, f4, _, q4⟩ := DataW.trod_int Try.underlying22 j1
          obtain ⟨x5, f5, _, q5⟩ := DataW.trod_int Try.underlying2 j2
          simp at f0 f1 f2 f3 f4 f5
          subst f0 f1 f2 f3 f4 f5
          exact ⟨⟨x0, x1, x2, x3, x4, x5⟩, ⟨i_of q0, uu_of q1, i_of q2, i_of q3, uu_of q4, i_of q5⟩, by simpa using e0, by simpa using e1, by simpa using e2, by simpa using e3, by simpa using e4, by simpa using e5⟩
    obtain ⟨X, hX⟩ := choose_lt each
    have hlen : ((List.range len0).map X).length = len0 := by simp
    refine ⟨some a, (List.range len0).map X, cap0, by rw [hlen], fun x hx => ?_, fun h0 => ?_⟩
    · obtain ⟨i, hi', rfl⟩ := List.mem_map.1 hx
      exact (hX i (by have := List.mem_range.1 hi'; omega)).1
    · rw [hlen] at h0
      obtain ⟨b, off, spot⟩ := a
      have h1 := (hX 0 (by omega)).2.1
      have hs : spot = none := by simpa [Addr.add] using World.cell?_spot h1
      subst hs
      have hadd : ∀ j, (⟨b, off, none⟩ : Addr).add j = ⟨b, off + j, none⟩ := fun j => by unfold Addr.add; split <;> simp_all
      refine ⟨b, off, rfl, ?_, fun i x hx => ?_⟩
      · have := World.block_lt_of_cell? W _ h1
        rw [hadd] at this
        exact this
      · have hil : i < len0 := by have := (List.getElem?_eq_some_iff.1 hx).1; simpa using this
        have ex : x = X i := by
          rw [List.getElem?_map, List.getElem?_range hil] at hx
          simpa using hx.symm
        subst ex
        obtain ⟨_, a0, a1, a2, a3, a4, a5⟩ := hX i (by omega)
        rw [hadd] at a0 a1 a2 a3 a4 a5
        exact ⟨a0, by rw [Nat.add_assoc]; exact a1, by rw [Nat.add_assoc]; exact a2, by rw [Nat.add_assoc]; exact a3, by rw [Nat.add_assoc]; exact a4, by rw [Nat.add_assoc]; exact a5⟩
end Go.Proofs.Ytalabakmeepboaa
