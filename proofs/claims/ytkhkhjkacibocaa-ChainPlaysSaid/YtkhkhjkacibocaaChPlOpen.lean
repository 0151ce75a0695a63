/-
  For ChainPlays: the calls that come in.
-/
import Derived.Test.YtkhkhjkacibocaaChPl
import Derived.Test.YtkhkhjkacibocaaChOpen
namespace Go.Proofs.Ytkhkhjkacibocaa
open Go.ChangeShapes Go.WideShapes Go.ChangeAt Go.RowKit Go.Deep

set_option maxRecDepth 100000 in
theorem open_ops {H : Type} {enc : TypeId × Value → H} {W : World} {base b0 : Nat} {held : Bool} {r : Reach} {v : Value} {d : DataW H} {p : List MemPlace}
    (hv : Value.okWide Try.prog W r b0 22 v) (h : DataW.Trod enc Try.prog W base (fun _ => true) held 22 v d p) : ∃ A l c, v = .slice A l.length c ∧ ArgOps W A l ∧ l.length ≤ 9223372036854775807 := by
  obtain ⟨a0, len0, cap0, rfl⟩ := okWide_slice Try.underlying22 hv
  obtain ⟨fuel, hf⟩ := h
  rcases open_slice Try.underlying22 hf with ⟨hcs, _⟩ | ⟨a, len, cap, m, n, D, Pl, hcs, hb, hl, hm, hmm, hx, hi⟩
  · simp [Value.cells] at hcs
    obtain ⟨rfl, rfl, rfl⟩ := hcs
    exact ⟨none, [], 0, rfl, ⟨fun x hx => by simp at hx, fun h => by simp at h⟩, by simp⟩
  · simp [Value.cells] at hcs
    obtain ⟨rfl, rfl, rfl⟩ := hcs
    have hlm : len0 ≤ m := by rw [hmm]; split <;> omega
    have each : ∀ i, i < m → ∃ x : OpD, x.Ok W ∧ W.cell? (a.add (i * 6)) = some (.int .i64 x.kind) ∧ W.cell? (a.add (i * 6 + 1)) = some (.int .u8 (x.which : Int)) ∧ W.cell? (a.add (i * 6 + 2)) = some (.slice x.A x.n x.cp) ∧ W.cell? (a.add (i * 6 + 3)) = some (.int .i64 x.nn) ∧ W.cell? (a.add (i * 6 + 4)) = some (.int .i64 x.f) ∧ W.cell? (a.add (i * 6 + 5)) = some (.int .u32 (x.many : Int)) := by
      intro i him
      obtain ⟨cs', h1, h2⟩ := hi i him
      rw [cellsOp] at h1
      obtain ⟨_, hlen, hcell⟩ := World.cells?_some h1
      obtain ⟨xs, k, hk, hxy, _, hxl, hf⟩ := DataW.trod_struct Try.underlying36 h2
      match xs, hxl, cs', hlen with
      | [y0, y1, y2, y3, y4, y5], _, [v0, v1, v2, v3, v4, v5], _ =>
        have g0 := hf 0 _ rfl
        have g1 := hf 1 _ rfl
        have g2 := hf 2 _ rfl
        have g3 := hf 3 _ rfl
        have g4 := hf 4 _ rfl
        have g5 := hf 5 _ rfl
        simp [cellsI, cellsB, cellsU, cellsM] at g0 g1 g2 g3 g4 g5
        have e0 := hcell 0 (by omega)
        have e1 := hcell 1 (by omega)
        have e2 := hcell 2 (by omega)
        have e3 := hcell 3 (by omega)
        have e4 := hcell 4 (by omega)
        have e5 := hcell 5 (by omega)
        rw [add_add] at e0 e1 e2 e3 e4 e5
        obtain ⟨x0, f0, _, q0⟩ := DataW.trod_int Try.underlying3 g0
        obtain ⟨x1, f1, _, q1⟩ := DataW.trod_int Try.underlying5 g1
        obtain ⟨x3, f3, _, q3⟩ := DataW.trod_int Try.underlying3 g3
        obtain ⟨x4, f4, _, q4⟩ := DataW.trod_int Try.underlying3 g4
        obtain ⟨x5, f5, _, q5⟩ := DataW.trod_int Try.underlying34 g5
        simp at f0 f1 f3 f4 f5
        subst f0 f1 f3 f4 f5
        have hs : ∃ A n c z, v2 = .slice A n c ∧ Src W No2 A n c z ∧ Byt z := by
          rcases open_ints Try.underlying31 Try.underlying5 (by kernel_rfl) g2 with ⟨hcs, _⟩ | ⟨x, l, c, zs, hcs, _, hl2, hm2, hz2, _, hcell2, hw2⟩
          · simp at hcs
            subst hcs
            exact ⟨none, 0, 0, [], rfl, Src.nl W No2, fun z hz => by simp at hz⟩
          · simp at hcs
            subst hcs
            obtain ⟨ys, h1, h2⟩ := bytes_of hl2 hm2 (by simpa using hz2) hcell2 hw2
            exact ⟨_, _, _, ys, rfl, h1, h2⟩
        obtain ⟨A, n, c, z, rfl, k1, k2⟩ := hs
        have w1 := bounds_u8 q1
        have w5 := bounds_u32 q5
        obtain ⟨n1, rfl⟩ : ∃ n : Nat, x1 = (n : Int) := ⟨x1.toNat, by omega⟩
        obtain ⟨n5, rfl⟩ : ∃ n : Nat, x5 = (n : Int) := ⟨x5.toNat, by omega⟩
        exact ⟨⟨x0, n1, A, n, c, z, x3, x4, n5⟩, ⟨k1, k2, i_of q3, i_of q4, by show n1 ≤ 255; omega, by show n5 ≤ 4294967295; omega⟩, by simpa using e0, by simpa using e1, by simpa using e2, by simpa using e3, by simpa using e4, by simpa using e5⟩
    obtain ⟨X, hX⟩ := choose_lt each
    have hlen : ((List.range len0).map X).length = len0 := by simp
    refine ⟨some a, (List.range len0).map X, cap0, by rw [hlen], ⟨fun x hx => ?_, fun h0 => ?_⟩, by rw [hlen]; unfold maxLen at hm; omega⟩
    · obtain ⟨i, hi', rfl⟩ := List.mem_map.1 hx
      exact (hX i (by have := List.mem_range.1 hi'; omega)).1
    · rw [hlen] at h0
      obtain ⟨b, off, spot⟩ := a
      have h1 := (hX 0 (by omega)).2.1
      have hs : spot = none := by simpa [Addr.add] using World.cell?_spot h1
      subst hs
      have hadd : ∀ j, (⟨b, off, none⟩ : Addr).add j = ⟨b, off + j, none⟩ := fun j => by unfold Addr.add; split <;> simp_all
      refine ⟨b, off, rfl, ?_, fun i x hx => ?_⟩
      · have := World.block_lt_of_cell? W _ h1
        rw [hadd] at this
        exact this
      · have hil : i < len0 := by have := (List.getElem?_eq_some_iff.1 hx).1; simpa using this
        have ex : x = X i := by
          rw [List.getElem?_map, List.getElem?_range hil] at hx
          simpa using hx.symm
        subst ex
        obtain ⟨_, a0, a1, a2, a3, a4, a5⟩ := hX i (by omega)
        rw [hadd] at a0 a1 a2 a3 a4 a5
        simp only [← Nat.add_assoc] at a1 a2 a3 a4 a5
        exact ⟨a0, a1, a2, a3, a4, a5⟩
end Go.Proofs.Ytkhkhjkacibocaa
