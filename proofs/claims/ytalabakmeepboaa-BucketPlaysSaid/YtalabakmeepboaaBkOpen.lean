/-
  For the frames of the buckets' statements: a rate that comes in, slices of numbers.
-/
import Derived.Test.YtalabakmeepboaaRows
import Derived.Test.YtalabakmeepboaaBkLaw
import Derived.Test.YtalabakmeepboaaCmArg
import Derived.ProofKit
import Derived.OpenShut
import Derived.Carry
import Derived.Deep.SlicePairs
namespace Go.Proofs.Ytalabakmeepboaa
open Go.ChangeShapes Go.WideShapes Go.ChangeAt Go.RowKit Go.Deep

theorem own : ownKnob Try.prog.godebug = none := by kernel_rfl
theorem laidOut : laidOutB Try.prog = true := by kernel_rfl
theorem i_of {n : Int} (h : (Lit.int .i64 n).wf = true) : I n := bounds_i64 h
theorem uu_of {n : Int} (h : (Lit.int .u64 n).wf = true) : U n := bounds_u64 h
theorem cellsRate : Try.prog.cellsOf 24 = 3 := by kernel_rfl
theorem cellsI : Try.prog.cellsOf 2 = 1 := by kernel_rfl
theorem cellsU : Try.prog.cellsOf 22 = 1 := by kernel_rfl

set_option maxRecDepth 100000 in
theorem open_rate {H : Type} {enc : TypeId × Value → H} {W : World} {base b0 : Nat} {held : Bool} {r : Reach} {v : Value} {d : DataW H} {p : List MemPlace}
    (hv : Value.okWide Try.prog W r b0 24 v) (h : DataW.Trod enc Try.prog W base (fun _ => true) held 24 v d p) : ∃ m e b, v = .agg #[.int .i64 m, .int .u64 e, .int .i64 b] ∧ I m ∧ U e ∧ I b := by
  obtain ⟨cs, rfl, hsz, _⟩ : ∃ cs, v = .agg cs ∧ cs.size = Try.prog.cellsOf 24 ∧ Row.okWide Try.prog W r b0 24 cs := by
    simpa [Value.okWide, Try.underlying24] using hv
  rw [cellsRate] at hsz
  obtain ⟨fuel, hf⟩ := h
  match cs, hsz with
  | ⟨[v0, v1, v2]⟩, _ =>
    obtain ⟨xs, k, hk, hxy, _, hxl, hf⟩ := DataW.trod_struct Try.underlying24 hf
    match xs, hxl with
    | [y0, y1, y2], _ =>
      have g0 := hf 0 _ rfl
      have g1 := hf 1 _ rfl
      have g2 := hf 2 _ rfl
      simp [Value.cells, cellsI, cellsU] at g0 g1 g2
      obtain ⟨x0, f0, _, q0⟩ := DataW.trod_int Try.underlying2 g0
      obtain ⟨x1, f1, _, q1⟩ := DataW.trod_int Try.underlying22 g1
      obtain ⟨x2, f2, _, q2⟩ := DataW.trod_int Try.underlying2 g2
      simp at f0 f1 f2
      subst f0 f1 f2
      exact ⟨x0, x1, x2, rfl, i_of q0, uu_of q1, i_of q2⟩
theorem open_u32 {H : Type} {enc : TypeId × Value → H} {W : World} {base b0 : Nat} {held : Bool} {r : Reach} {v : Value} {d : DataW H} {p : List MemPlace}
    (hv : Value.okWide Try.prog W r b0 48 v) (h : DataW.Trod enc Try.prog W base (fun _ => true) held 48 v d p) : ∃ A l c, v = .slice A l.length c ∧ ArgN .u32 0 4294967295 W A l := by
  obtain ⟨a0, len0, cap0, rfl⟩ := okWide_slice Try.underlying48 hv
  obtain ⟨fuel, hf⟩ := h
  rcases open_ints Try.underlying48 Try.underlying51 (by kernel_rfl) hf with ⟨hcs, _⟩ | ⟨x, l, c, zs, hcs, _, hl, hm, hz, _, hcell, hwz⟩
  · simp [Value.cells] at hcs
    obtain ⟨rfl, rfl, rfl⟩ := hcs
    exact ⟨none, [], 0, rfl, fun x hx => by simp at hx, fun h => by simp at h⟩
  · simp [Value.cells] at hcs
    obtain ⟨rfl, rfl, rfl⟩ := hcs
    obtain ⟨A, l, rfl, el, ha⟩ := argN_of hl (by simpa using hz) hcell (fun z hz => bounds_u32 (hwz z hz))
    exact ⟨_, l, cap0, by rw [el], ha⟩
theorem open_i64 {H : Type} {enc : TypeId × Value → H} {W : World} {base b0 : Nat} {held : Bool} {r : Reach} {v : Value} {d : DataW H} {p : List MemPlace}
    (hv : Value.okWide Try.prog W r b0 49 v) (h : DataW.Trod enc Try.prog W base (fun _ => true) held 49 v d p) : ∃ A l c, v = .slice A l.length c ∧ ArgN .i64 (-9223372036854775808) 9223372036854775807 W A l := by
  obtain ⟨a0, len0, cap0, rfl⟩ := okWide_slice Try.underlying49 hv
  obtain ⟨fuel, hf⟩ := h
  rcases open_ints Try.underlying49 Try.underlying2 (by kernel_rfl) hf with ⟨hcs, _⟩ | ⟨x, l, c, zs, hcs, _, hl, hm, hz, _, hcell, hwz⟩
  · simp [Value.cells] at hcs
    obtain ⟨rfl, rfl, rfl⟩ := hcs
    exact ⟨none, [], 0, rfl, fun x hx => by simp at hx, fun h => by simp at h⟩
  · simp [Value.cells] at hcs
    obtain ⟨rfl, rfl, rfl⟩ := hcs
    obtain ⟨A, l, rfl, el, ha⟩ := argN_of hl (by simpa using hz) hcell (fun z hz => bounds_i64 (hwz z hz))
    exact ⟨_, l, cap0, by rw [el], ha⟩
end Go.Proofs.Ytalabakmeepboaa
