/-
  For the frames of the world's statements: bytes, and calls, that come in.
-/
import Derived.Test.YtjejpgognfadoaaRows
import Derived.Test.YtjejpgognfadoaaWdArg
import Derived.ProofKit
import Derived.OpenShut
import Derived.Carry
import Derived.Deep.SlicePairs
namespace Go.Proofs.Ytjejpgognfadoaa
open Go.ChangeShapes Go.WideShapes Go.ChangeAt Go.RowKit Go.Deep

theorem own : ownKnob Try.prog.godebug = none := by kernel_rfl
theorem laidOut : laidOutB Try.prog = true := by kernel_rfl
theorem i_of {n : Int} (h : (Lit.int .i64 n).wf = true) : -9223372036854775808 ≤ n ∧ n ≤ 9223372036854775807 := by have := bounds_i64 h; omega
theorem bytes_of {W : World} {a : Addr} {len cap : Nat} {zs : List Int} (hl : len ≤ cap) (hm : cap ≤ maxLen) (hz : zs.length = cap) (hcell : ∀ i, i < zs.length → W.cell? (a.add i) = some (.int .u8 (zs.getD i 0))) :
    ∃ ys, Src W (fun _ => False) (.slice (some a) len cap) ys := by
  have hlen : (zs.take len).length = len := by rw [List.length_take]; omega
  refine ⟨zs.take len, some a, cap, by rw [hlen], by rw [hlen]; exact hl, by unfold maxLen at hm; omega, fun h0 => ?_⟩
  rw [hlen] at h0
  obtain ⟨b, off, spot⟩ := a
  have h1 := hcell 0 (by omega)
  have hs : spot = none := by simpa [Addr.add] using World.cell?_spot h1
  subst hs
  have hadd : ∀ j, (⟨b, off, none⟩ : Addr).add j = ⟨b, off + j, none⟩ := fun j => by unfold Addr.add; split <;> simp_all
  refine ⟨b, off, rfl, ?_, fun e => e, fun i z hi => ?_⟩
  · have := World.block_lt_of_cell? W _ h1
    rw [hadd] at this
    exact this
  · rw [List.getElem?_take] at hi
    split at hi
    · have h2 := hcell i (by omega)
      rw [hadd] at h2
      rw [h2, List.getD_eq_getElem?_getD, hi]; rfl
    · cases hi

set_option maxRecDepth 100000 in
theorem open_b {H : Type} {enc : TypeId × Value → H} {W : World} {base b0 : Nat} {held : Bool} {r : Reach} {v : Value} {d : DataW H} {p : List MemPlace}
    (hv : Value.okWide Try.prog W r b0 32 v) (h : DataW.Trod enc Try.prog W base (fun _ => true) held 32 v d p) : ∃ zs, Src W (fun _ => False) v zs := by
  obtain ⟨a0, len0, cap0, rfl⟩ := okWide_slice Try.underlying32 hv
  obtain ⟨fuel, hf⟩ := h
  rcases open_ints Try.underlying32 Try.underlying5 (by kernel_rfl) hf with ⟨hcs, _⟩ | ⟨x, l, c, zs, hcs, _, hl, hm, hz, _, hcell, _⟩
  · simp [Value.cells] at hcs
    obtain ⟨rfl, rfl, rfl⟩ := hcs
    exact ⟨[], none, 0, rfl, Nat.le_refl _, by omega, fun h => by simp at h⟩
  · simp [Value.cells] at hcs
    obtain ⟨rfl, rfl, rfl⟩ := hcs
    exact bytes_of hl hm (by simpa using hz) hcell

set_option maxRecDepth 100000 in
theorem cellsI : Try.prog.cellsOf 3 = 1 := by kernel_rfl
set_option maxRecDepth 100000 in
theorem cellsB : Try.prog.cellsOf 32 = 1 := by kernel_rfl
set_option maxRecDepth 100000 in
theorem cellsU64 : Try.prog.cellsOf 31 = 1 := by kernel_rfl
set_option maxRecDepth 100000 in
theorem cellsOp : Try.prog.cellsOf 34 = 5 := by kernel_rfl

set_option maxRecDepth 100000 in
theorem open_ops {H : Type} {enc : TypeId × Value → H} {W : World} {base b0 : Nat} {held : Bool} {r : Reach} {v : Value} {d : DataW H} {p : List MemPlace}
    (hv : Value.okWide Try.prog W r b0 22 v) (h : DataW.Trod enc Try.prog W base (fun _ => true) held 22 v d p) : ∃ A l c, v = .slice A l.length c ∧ ArgW W A l ∧ l.length ≤ 9223372036854775807 := by
  obtain ⟨a0, len0, cap0, rfl⟩ := okWide_slice Try.underlying22 hv
  obtain ⟨fuel, hf⟩ := h
  rcases open_slice Try.underlying22 hf with ⟨hcs, _⟩ | ⟨a, len, cap, m, n, D, Pl, hcs, hb, hl, hm, hmm, hx, hi⟩
  · simp [Value.cells] at hcs
    obtain ⟨rfl, rfl, rfl⟩ := hcs
    exact ⟨none, [], 0, rfl, ⟨fun x hx => by simp at hx, fun h => by simp at h⟩, by simp⟩
  · simp [Value.cells] at hcs
    obtain ⟨rfl, rfl, rfl⟩ := hcs
    have hlm : len0 ≤ m := by rw [hmm]; split <;> omega
    have each : ∀ i, i < m → ∃ x : OpW, x.Ok W ∧ W.cell? (a.add (i * 5)) = some (.int .i64 x.kind) ∧ W.cell? (a.add (i * 5 + 1)) = some (.int .i64 x.a) ∧ W.cell? (a.add (i * 5 + 2)) = some (.int .i64 x.n) ∧ W.cell? (a.add (i * 5 + 3)) = some (.int .u64 x.t) ∧ W.cell? (a.add (i * 5 + 4)) = some x.v := by
      intro i him
      obtain ⟨cs', h1, h2⟩ := hi i him
      rw [cellsOp] at h1
      obtain ⟨_, hlen, hcell⟩ := World.cells?_some h1
      obtain ⟨xs, k, hk, hxy, _, hxl, hf⟩ := DataW.trod_struct Try.underlying34 h2
      match xs, hxl, cs', hlen with
      | [y0, y1, y2, y3, y4], _, [v0, v1, v2, v3, v4], _ =>
        have g0 := hf 0 _ rfl
        have g1 := hf 1 _ rfl
        have g2 := hf 2 _ rfl
        have g3 := hf 3 _ rfl
        have g4 := hf 4 _ rfl
        simp [cellsI, cellsB, cellsU64] at g0 g1 g2 g3 g4
        have e0 := hcell 0 (by omega)
        have e1 := hcell 1 (by omega)
        have e2 := hcell 2 (by omega)
        have e3 := hcell 3 (by omega)
        have e4 := hcell 4 (by omega)
        rw [add_add] at e0 e1 e2 e3 e4
        obtain ⟨x0, f0, _, q0⟩ := DataW.trod_int Try.underlying3 g0
        obtain ⟨x1, f1, _, q1⟩ := DataW.trod_int Try.underlying3 g1
        obtain ⟨x2, f2, _, q2⟩ := DataW.trod_int Try.underlying3 g2
        obtain ⟨x3, f3, _, q3⟩ := DataW.trod_int Try.underlying31 g3
        simp at f0 f1 f2 f3
        subst f0 f1 f2 f3
        have hs : ∃ zs, Src W (fun _ => False) v4 zs := by
          rcases open_ints Try.underlying32 Try.underlying5 (by kernel_rfl) g4 with ⟨hcs, _⟩ | ⟨x, l, c, zs, hcs, _, hl2, hm2, hz2, _, hcell2, _⟩
          · simp at hcs
            subst hcs
            exact ⟨[], none, 0, rfl, Nat.le_refl _, by omega, fun h => by simp at h⟩
          · simp at hcs
            subst hcs
            exact bytes_of hl2 hm2 (by simpa using hz2) hcell2
        obtain ⟨zs, hs⟩ := hs
        exact ⟨⟨x0, x1, x2, x3, v4, zs⟩, ⟨i_of q0, i_of q1, i_of q2, hs⟩, by simpa using e0, by simpa using e1, by simpa using e2, by simpa using e3, by simpa using e4⟩
    obtain ⟨X, hX⟩ := choose_lt each
    have hlen : ((List.range len0).map X).length = len0 := by simp
    refine ⟨some a, (List.range len0).map X, cap0, by rw [hlen], ⟨fun x hx => ?_, fun h0 => ?_⟩, by rw [hlen]; unfold maxLen at hm; omega⟩
    · obtain ⟨i, hi', rfl⟩ := List.mem_map.1 hx
      exact (hX i (by have := List.mem_range.1 hi'; omega)).1
    · rw [hlen] at h0
      obtain ⟨b, off, spot⟩ := a
      have h1 := (hX 0 (by omega)).2.1
      have hs : spot = none := by simpa [Addr.add] using World.cell?_spot h1
      subst hs
      have hadd : ∀ j, (⟨b, off, none⟩ : Addr).add j = ⟨b, off + j, none⟩ := fun j => by unfold Addr.add; split <;> simp_all
      refine ⟨b, off, rfl, ?_, fun i x hx => ?_⟩
      · have := World.block_lt_of_cell? W _ h1
        rw [hadd] at this
        exact this
      · have hil : i < len0 := by have := (List.getElem?_eq_some_iff.1 hx).1; simpa using this
        have ex : x = X i := by
          rw [List.getElem?_map, List.getElem?_range hil] at hx
          simpa using hx.symm
        subst ex
        obtain ⟨_, a0, a1, a2, a3, a4⟩ := hX i (by omega)
        rw [hadd] at a0 a1 a2 a3 a4
        simp only [← Nat.add_assoc] at a1 a2 a3 a4
        exact ⟨a0, a1, a2, a3, a4⟩
end Go.Proofs.Ytjejpgognfadoaa
