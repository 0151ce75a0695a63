/-
  For the frames of the chains' statements: bytes that come in.
-/
import Derived.Test.YtkhkhjkacibocaaRows
import Derived.Test.YtkhkhjkacibocaaChCutL
import Derived.ProofKit
import Derived.OpenShut
import Derived.Carry
import Derived.Deep.SlicePairs
namespace Go.Proofs.Ytkhkhjkacibocaa
open Go.ChangeShapes Go.WideShapes Go.ChangeAt Go.RowKit Go.Deep

theorem own : ownKnob Try.prog.godebug = none := by kernel_rfl
theorem laidOut : laidOutB Try.prog = true := by kernel_rfl
theorem i_of {n : Int} (h : (Lit.int .i64 n).wf = true) : -9223372036854775808 ≤ n ∧ n ≤ 9223372036854775807 := by have := bounds_i64 h; omega
theorem byte_of {z : Int} (h : (Lit.int .u8 z).wf = true) : 0 ≤ z ∧ z < 256 := by
  have := bounds_u8 h
  omega

theorem bytes_of {W : World} {a : Addr} {len cap : Nat} {zs : List Int} (hl : len ≤ cap) (hm : cap ≤ maxLen) (hz : zs.length = cap) (hcell : ∀ i, i < zs.length → W.cell? (a.add i) = some (.int .u8 (zs.getD i 0))) (hw : ∀ z ∈ zs, (Lit.int .u8 z).wf = true) :
    ∃ ys, Src W No2 (some a) len cap ys ∧ Byt ys := by
  have hlen : (zs.take len).length = len := by rw [List.length_take]; omega
  refine ⟨zs.take len, ⟨hlen, hl, by unfold maxLen at hm; omega, (fun e => by cases e), ?_, ?_⟩, fun z hz => byte_of (hw z (List.mem_of_mem_take hz))⟩
  · intro a' e h0
    cases e
    obtain ⟨b, off, spot⟩ := a
    have h1 := hcell 0 (by omega)
    simpa [Addr.add] using World.cell?_spot h1
  · intro h0
    obtain ⟨b, off, spot⟩ := a
    have h1 := hcell 0 (by omega)
    have hs : spot = none := by simpa [Addr.add] using World.cell?_spot h1
    subst hs
    have hadd : ∀ j, (⟨b, off, none⟩ : Addr).add j = ⟨b, off + j, none⟩ := fun j => by unfold Addr.add; split <;> simp_all
    refine ⟨b, off, rfl, ?_, fun i z hi => ⟨fun e => e, ?_⟩⟩
    · have := World.block_lt_of_cell? W _ h1
      rw [hadd] at this
      exact this
    · rw [List.getElem?_take] at hi
      split at hi
      · have h2 := hcell i (by omega)
        rw [hadd] at h2
        rw [h2, List.getD_eq_getElem?_getD, hi]; rfl
      · cases hi

theorem open_b {H : Type} {enc : TypeId × Value → H} {W : World} {base b0 : Nat} {held : Bool} {r : Reach} {v : Value} {d : DataW H} {p : List MemPlace}
    (hv : Value.okWide Try.prog W r b0 31 v) (h : DataW.Trod enc Try.prog W base (fun _ => true) held 31 v d p) : ∃ A n c zs, v = .slice A n c ∧ Src W No2 A n c zs ∧ Byt zs := by
  obtain ⟨a0, len0, cap0, rfl⟩ := okWide_slice Try.underlying31 hv
  obtain ⟨fuel, hf⟩ := h
  rcases open_ints Try.underlying31 Try.underlying5 (by kernel_rfl) hf with ⟨hcs, _⟩ | ⟨x, l, c, zs, hcs, _, hl, hm, hz, _, hcell, hw⟩
  · simp [Value.cells] at hcs
    obtain ⟨rfl, rfl, rfl⟩ := hcs
    exact ⟨none, 0, 0, [], rfl, Src.nl W No2, fun z hz => by simp at hz⟩
  · simp [Value.cells] at hcs
    obtain ⟨rfl, rfl, rfl⟩ := hcs
    obtain ⟨ys, h1, h2⟩ := bytes_of hl hm (by simpa using hz) hcell hw
    exact ⟨_, _, _, ys, rfl, h1, h2⟩

theorem cellsI : Try.prog.cellsOf 3 = 1 := by kernel_rfl
theorem cellsB : Try.prog.cellsOf 31 = 1 := by kernel_rfl
theorem cellsU : Try.prog.cellsOf 5 = 1 := by kernel_rfl
theorem cellsM : Try.prog.cellsOf 34 = 1 := by kernel_rfl
theorem cellsOp : Try.prog.cellsOf 36 = 6 := by kernel_rfl

/-- A call that a law is given. -/
theorem open_op {H : Type} {enc : TypeId × Value → H} {W : World} {base b0 : Nat} {held : Bool} {r : Reach} {v : Value} {d : DataW H} {p : List MemPlace}
    (hv : Value.okWide Try.prog W r b0 36 v) (h : DataW.Trod enc Try.prog W base (fun _ => true) held 36 v d p) :
    ∃ kind which A n c z nn f many, v = .agg #[.int .i64 kind, .int .u8 which, .slice A n c, .int .i64 nn, .int .i64 f, .int .u32 many] ∧ Src W No2 A n c z ∧ Byt z ∧ (-9223372036854775808 ≤ f ∧ f ≤ 9223372036854775807) ∧ (-9223372036854775808 ≤ nn ∧ nn ≤ 9223372036854775807) ∧
      (-9223372036854775808 ≤ kind ∧ kind ≤ 9223372036854775807) ∧ (0 ≤ which ∧ which ≤ 255) ∧ (0 ≤ many ∧ many ≤ 4294967295) := by
  obtain ⟨cs, rfl, hcs⟩ := okWide_struct Try.underlying36 hv
  rw [cellsOp] at hcs
  obtain ⟨fuel, hf0⟩ := h
  obtain ⟨xs, k, hk, hxy, _, hxl, hf⟩ := DataW.trod_struct Try.underlying36 hf0
  obtain ⟨l⟩ := cs
  have hlen : l.length = 6 := by simpa using hcs
  match xs, hxl, l, hlen with
  | [y0, y1, y2, y3, y4, y5], _, [v0, v1, v2, v3, v4, v5], _ =>
    have g0 := hf 0 _ rfl
    have g1 := hf 1 _ rfl
    have g2 := hf 2 _ rfl
    have g3 := hf 3 _ rfl
    have g4 := hf 4 _ rfl
    have g5 := hf 5 _ rfl
    simp [cellsI, cellsB, cellsU, cellsM, Value.cells] at g0 g1 g2 g3 g4 g5
    obtain ⟨x0, f0, _, q0⟩ := DataW.trod_int Try.underlying3 g0
    obtain ⟨x1, f1, _, q1⟩ := DataW.trod_int Try.underlying5 g1
    obtain ⟨x3, f3, _, q3⟩ := DataW.trod_int Try.underlying3 g3
    obtain ⟨x4, f4, _, q4⟩ := DataW.trod_int Try.underlying3 g4
    obtain ⟨x5, f5, _, q5⟩ := DataW.trod_int Try.underlying34 g5
    simp at f0 f1 f3 f4 f5
    subst f0 f1 f3 f4 f5
    have hs : ∃ A n c z, v2 = .slice A n c ∧ Src W No2 A n c z ∧ Byt z := by
      rcases open_ints Try.underlying31 Try.underlying5 (by kernel_rfl) g2 with ⟨hcs, _⟩ | ⟨x, l, c, zs, hcs, _, hl2, hm2, hz2, _, hcell2, hw2⟩
      · simp at hcs
        subst hcs
        exact ⟨none, 0, 0, [], rfl, Src.nl W No2, fun z hz => by simp at hz⟩
      · simp at hcs
        subst hcs
        obtain ⟨ys, h1, h2⟩ := bytes_of hl2 hm2 (by simpa using hz2) hcell2 hw2
        exact ⟨_, _, _, ys, rfl, h1, h2⟩
    obtain ⟨A, n, c, z, rfl, h1, h2⟩ := hs
    exact ⟨x0, x1, A, n, c, z, x3, x4, x5, rfl, h1, h2, i_of q4, i_of q3, i_of q0, bounds_u8 q1, bounds_u32 q5⟩
end Go.Proofs.Ytkhkhjkacibocaa
