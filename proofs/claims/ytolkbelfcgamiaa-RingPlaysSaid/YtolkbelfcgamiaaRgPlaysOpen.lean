/-
  RingPlays: its argument, each row of bytes within the reach.
-/
import Derived.Test.YtolkbelfcgamiaaRgOpen
import Derived.Test.YtolkbelfcgamiaaRgPl2
import Derived.SizedLaws
namespace Go.Proofs.Ytolkbelfcgamiaa
open Go.ChangeShapes Go.WideShapes Go.ChangeAt Go.RowKit Go.Deep

theorem bytesU8 : Try.prog.bytesOf 5 = 1 := by kernel_rfl
theorem mem_all {H : Type} {P : Program} {e : TypeId} : ∀ {l : List (DataW H)} {d : DataW H}, d ∈ l → ∀ n ∈ d.weights P e, n ∈ DataW.weightsAll P e l
  | d0 :: l, d, h, n, hn => by
    simp only [DataW.weightsAll, List.mem_append]
    rcases List.mem_cons.1 h with rfl | h
    · exact Or.inl hn
    · exact Or.inr (mem_all h n hn)
  | [], _, h, _, _ => by cases h

set_option maxRecDepth 100000 in
theorem open_ops_sized {H : Type} {enc : TypeId × Value → H} {W : World} {base b0 : Nat} {held : Bool} {r : Reach} {v : Value} {d : DataW H} {p : List MemPlace}
    (hv : Value.okWide Try.prog W r b0 22 v) (h : DataW.Trod enc Try.prog W base (fun _ => true) held 22 v d p) (hw : ∀ n ∈ d.weights Try.prog 22, n ≤ reachBytes) : ∃ A l c, v = .slice A l.length c ∧ ArgOps W A l ∧ l.length ≤ 9223372036854775807 ∧ ∀ x ∈ l, x.b.length ≤ 140737488355328 := by
  obtain ⟨a0, len0, cap0, rfl⟩ := okWide_slice Try.underlying22 hv
  obtain ⟨fuel, hf⟩ := h
  rcases open_slice Try.underlying22 hf with ⟨hcs, _⟩ | ⟨a, len, cap, m, n, D, Pl, hcs, hb, hl, hm, hmm, hx, hi⟩
  · simp [Value.cells] at hcs
    obtain ⟨rfl, rfl, rfl⟩ := hcs
    exact ⟨none, [], 0, rfl, ⟨fun x hx => by simp at hx, fun h => by simp at h⟩, by simp, fun x hx => by simp at hx⟩
  · simp [Value.cells] at hcs
    obtain ⟨rfl, rfl, rfl⟩ := hcs
    have hlm : len0 ≤ m := by rw [hmm]; split <;> omega
    have each : ∀ i, i < m → ∃ x : OpD, (x.Ok ∧ Src W (fun _ => False) x.v x.b ∧ CapOk x.v) ∧ W.cell? (a.add (i * 3)) = some (.int .i64 x.kind) ∧ W.cell? (a.add (i * 3 + 1)) = some (.int .i64 x.n) ∧ W.cell? (a.add (i * 3 + 2)) = some x.v ∧ (i < len0 → x.b.length ≤ 140737488355328) := by
      intro i him
      obtain ⟨cs', h1, h2⟩ := hi i him
      rw [cellsOp] at h1
      obtain ⟨_, hlen, hcell⟩ := World.cells?_some h1
      obtain ⟨xs, k, hk, hxy, _, hxl, hf⟩ := DataW.trod_struct Try.underlying35 h2
      match xs, hxl, cs', hlen with
      | [y0, y1, y2], _, [v0, v1, v2], _ =>
        have g0 := hf 0 _ rfl
        have g1 := hf 1 _ rfl
        have g2 := hf 2 _ rfl
        simp [cellsI, cellsB] at g0 g1 g2
        have e0 := hcell 0 (by omega)
        have e1 := hcell 1 (by omega)
        have e2 := hcell 2 (by omega)
        rw [add_add] at e0 e1 e2
        obtain ⟨x0, f0, _, q0⟩ := DataW.trod_int Try.underlying3 g0
        obtain ⟨x1, f1, _, q1⟩ := DataW.trod_int Try.underlying3 g1
        simp at f0 f1
        subst f0 f1
        have hw2 : i < len0 → ∀ n ∈ y2.1.weights Try.prog 28, n ≤ reachBytes := fun hil n hn => hw n (by
          have hd : d = (_, _).1 := congrArg Prod.fst hx
          rw [hd]
          simp only [DataW.weights, Try.underlying22]
          refine List.mem_cons_of_mem _ (List.mem_append_left _ (mem_all (List.mem_map.2 ⟨i, List.mem_range.2 hil, rfl⟩) n ?_))
          have hD : D i = (_, _).1 := congrArg Prod.fst hxy
          rw [hD]
          simp only [DataW.weights, Try.underlying35]
          exact DataW.weights_mem_each (j := 2) rfl rfl n hn)
        have hs : ∃ zs, Src W (fun _ => False) v2 zs ∧ CapOk v2 ∧ (i < len0 → zs.length ≤ 140737488355328) := by
          rcases open_ints Try.underlying28 Try.underlying5 (by kernel_rfl) g2 with ⟨hcs, _⟩ | ⟨x, l, c, zs, hcs, _, hl2, hm2, hz2, hx2, hcell2, _⟩
          · simp at hcs
            subst hcs
            exact ⟨[], ⟨none, 0, rfl, Nat.le_refl _, by omega, fun h => by simp at h⟩, ⟨none, 0, 0, rfl, fun _ => rfl, (fun a e => by cases e)⟩, fun _ => by simp⟩
          · simp at hcs
            subst hcs
            obtain ⟨ys, hy⟩ := bytes_of hl2 hm2 (by simpa using hz2) hcell2
            have hlen2 : i < len0 → ys.length ≤ 140737488355328 := fun hil => by
              have h9 := hw2 hil
              rw [congrArg Prod.fst hx2] at h9
              have h8 := h9 (((lits (H := H) .u8 (zs.take l)).length + (lits (H := H) .u8 (zs.drop l)).length) * Try.prog.bytesOf 5) (by simp only [DataW.weights, Try.underlying28]; exact List.mem_cons_self ..)
              rw [bytesU8] at h8
              simp only [lits, List.length_map, List.length_take, List.length_drop, reachBytes] at h8
              obtain ⟨_, _, e9, _⟩ := id hy
              cases e9
              simp at hz2
              omega
            refine ⟨ys, hy, ⟨some x, l, c, rfl, (fun e => by cases e), fun a e hc => ?_⟩, hlen2⟩
            cases e
            have h1 := hcell2 0 (by simp at hz2; omega)
            obtain ⟨b, off, spot⟩ := x
            simpa [Addr.add] using World.cell?_spot h1
        obtain ⟨zs, hs, hs2, hs3⟩ := hs
        exact ⟨⟨x0, x1, v2, zs⟩, ⟨⟨i_of q0, i_of q1⟩, hs, hs2⟩, by simpa using e0, by simpa using e1, by simpa using e2, hs3⟩
    obtain ⟨X, hX⟩ := choose_lt each
    have hlen : ((List.range len0).map X).length = len0 := by simp
    refine ⟨some a, (List.range len0).map X, cap0, by rw [hlen], ⟨fun x hx => ?_, fun h0 => ?_⟩, by rw [hlen]; unfold maxLen at hm; omega, fun x hx => by
      obtain ⟨i, hi', rfl⟩ := List.mem_map.1 hx
      have hi2 := List.mem_range.1 hi'
      exact (hX i (by omega)).2.2.2.2 hi2⟩
    · obtain ⟨i, hi', rfl⟩ := List.mem_map.1 hx
      exact (hX i (by have := List.mem_range.1 hi'; omega)).1
    · rw [hlen] at h0
      obtain ⟨b, off, spot⟩ := a
      have h1 := (hX 0 (by omega)).2.1
      have hs : spot = none := by simpa [Addr.add] using World.cell?_spot h1
      subst hs
      have hadd : ∀ j, (⟨b, off, none⟩ : Addr).add j = ⟨b, off + j, none⟩ := fun j => by unfold Addr.add; split <;> simp_all
      refine ⟨b, off, rfl, ?_, fun i x hx => ?_⟩
      · have := World.block_lt_of_cell? W _ h1
        rw [hadd] at this
        exact this
      · have hil : i < len0 := by have := (List.getElem?_eq_some_iff.1 hx).1; simpa using this
        have ex : x = X i := by
          rw [List.getElem?_map, List.getElem?_range hil] at hx
          simpa using hx.symm
        subst ex
        obtain ⟨_, a0, a1, a2, _⟩ := hX i (by omega)
        rw [hadd] at a0 a1 a2
        exact ⟨a0, by rw [Nat.add_assoc]; exact a1, by rw [Nat.add_assoc]; exact a2⟩
end Go.Proofs.Ytolkbelfcgamiaa
