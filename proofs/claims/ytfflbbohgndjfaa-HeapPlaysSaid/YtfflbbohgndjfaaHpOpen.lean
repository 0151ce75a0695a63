/-
  For the frames of the heap's statements: a slice of items that comes in.
-/
import Derived.Test.YtfflbbohgndjfaaRows
import Derived.Test.YtfflbbohgndjfaaHpLaw
import Derived.ProofKit
import Derived.OpenShut
import Derived.Carry
import Derived.Deep.SlicePairs
namespace Go.Proofs.Ytfflbbohgndjfaa
open Go.ChangeShapes Go.WideShapes Go.ChangeAt Go.RowKit Go.Deep

theorem own : ownKnob Try.prog.godebug = none := by kernel_rfl
theorem laidOut : laidOutB Try.prog = true := by kernel_rfl
theorem i_of {n : Int} (h : (Lit.int .i64 n).wf = true) : -9223372036854775808 ≤ n ∧ n ≤ 9223372036854775807 := by have := bounds_i64 h; omega
theorem u_of {n : Int} (h : (Lit.int .u64 n).wf = true) : 0 ≤ n ∧ n ≤ 18446744073709551615 := by have := bounds_u64 h; omega
theorem cellsIt : Try.prog.cellsOf 31 = 3 := by kernel_rfl
theorem cellsI : Try.prog.cellsOf 3 = 1 := by kernel_rfl
theorem cellsU : Try.prog.cellsOf 29 = 1 := by kernel_rfl

set_option maxRecDepth 100000 in
theorem open_its {H : Type} {enc : TypeId × Value → H} {W : World} {base b0 : Nat} {held : Bool} {r : Reach} {v : Value} {d : DataW H} {p : List MemPlace}
    (hv : Value.okWide Try.prog W r b0 26 v) (h : DataW.Trod enc Try.prog W base (fun _ => true) held 26 v d p) : ∃ A l c, v = .slice A l.length c ∧ ArgIts W A l := by
  obtain ⟨a0, len0, cap0, rfl⟩ := okWide_slice Try.underlying26 hv
  obtain ⟨fuel, hf⟩ := h
  rcases open_slice Try.underlying26 hf with ⟨hcs, _⟩ | ⟨a, len, cap, m, n, D, Pl, hcs, hb, hl, hm, hmm, hx, hi⟩
  · simp [Value.cells] at hcs
    obtain ⟨rfl, rfl, rfl⟩ := hcs
    exact ⟨none, [], 0, rfl, fun x hx => by simp at hx, fun h => by simp at h⟩
  · simp [Value.cells] at hcs
    obtain ⟨rfl, rfl, rfl⟩ := hcs
    have hlm : len0 ≤ m := by rw [hmm]; split <;> omega
    have each : ∀ i, i < m → ∃ x : It, x.Ok ∧ W.cell? (a.add (i * 3)) = some (.int .i64 x.id) ∧ W.cell? (a.add (i * 3 + 1)) = some (.int .u64 x.d) ∧ W.cell? (a.add (i * 3 + 2)) = some (.int .u64 x.n) := by
      intro i him
      obtain ⟨cs', h1, h2⟩ := hi i him
      rw [cellsIt] at h1
      obtain ⟨_, hlen, hcell⟩ := World.cells?_some h1
      obtain ⟨xs, k, hk, hxy, _, hxl, hf⟩ := DataW.trod_struct Try.underlying31 h2
      match xs, hxl, cs', hlen with
      | [y0, y1, y2], _, [v0, v1, v2], _ =>
        have g0 := hf 0 _ rfl
        have g1 := hf 1 _ rfl
        have g2 := hf 2 _ rfl
        simp [cellsI, cellsU] at g0 g1 g2
        have e0 := hcell 0 (by omega)
        have e1 := hcell 1 (by omega)
        have e2 := hcell 2 (by omega)
        rw [add_add] at e0 e1 e2
        obtain ⟨x0, f0, _, q0⟩ := DataW.trod_int Try.underlying3 g0
        obtain ⟨x1, f1, _, q1⟩ := DataW.trod_int Try.underlying29 g1
        obtain ⟨x2, f2, _, q2⟩ := DataW.trod_int Try.underlying29 g2
        simp at f0 f1 f2
        subst f0 f1 f2
        exact ⟨⟨x0, x1, x2⟩, ⟨i_of q0, u_of q1, u_of q2⟩, by simpa using e0, by simpa using e1, by simpa using e2⟩
    obtain ⟨X, hX⟩ := choose_lt each
    have hlen : ((List.range len0).map X).length = len0 := by simp
    refine ⟨some a, (List.range len0).map X, cap0, by rw [hlen], fun x hx => ?_, fun h0 => ?_⟩
    · obtain ⟨i, hi', rfl⟩ := List.mem_map.1 hx
      exact (hX i (by have := List.mem_range.1 hi'; omega)).1
    · rw [hlen] at h0
      obtain ⟨b, off, spot⟩ := a
      have h1 := (hX 0 (by omega)).2.1
      have hs : spot = none := by simpa [Addr.add] using World.cell?_spot h1
      subst hs
      have hadd : ∀ j, (⟨b, off, none⟩ : Addr).add j = ⟨b, off + j, none⟩ := fun j => by unfold Addr.add; split <;> simp_all
      refine ⟨b, off, rfl, ?_, fun i x hx => ?_⟩
      · have := World.block_lt_of_cell? W _ h1
        rw [hadd] at this
        exact this
      · have hil : i < len0 := by have := (List.getElem?_eq_some_iff.1 hx).1; simpa using this
        have ex : x = X i := by
          rw [List.getElem?_map, List.getElem?_range hil] at hx
          simpa using hx.symm
        subst ex
        obtain ⟨_, a0, a1, a2⟩ := hX i (by omega)
        rw [hadd] at a0 a1 a2
        exact ⟨a0, by rw [Nat.add_assoc]; exact a1, by rw [Nat.add_assoc]; exact a2⟩
end Go.Proofs.Ytfflbbohgndjfaa
