/-
  A set that comes in by value: two words, each below 2^32; and how it reads again.
-/
import Derived.Test.YthpinbngggcgcaaDoorProg
import Derived.WalkKit
import Derived.ProofKit
import Derived.OpenShut
import Derived.ChangeOld
import Derived.Lib.SmallJoins
namespace Go.Proofs.YthpinbngggcgcaaDoor
open Go.ChangeShapes Go.WideShapes Go.ChangeAt Go.RowKit

theorem cellsSet : Tryd.prog.cellsOf 25 = 2 := by kernel_rfl
theorem cellsU32 : Tryd.prog.cellsOf 23 = 1 := by kernel_rfl
section
variable {H : Type} {enc : TypeId × Value → H} {w : World} {base : Nat} {spare : Nat → Bool} {held : Bool}

set_option maxRecDepth 10000 in
theorem open_set {r : Reach} {b0 : Nat} {v : Value} {d : DataW H} {p : List MemPlace} (hv : Value.okWide Tryd.prog w r b0 25 v) (h : DataW.Trod enc Tryd.prog w base spare held 25 v d p) :
    ∃ a b : Nat, a < 4294967296 ∧ b < 4294967296 ∧ v = .agg #[.int .u32 (a : Int), .int .u32 (b : Int)] ∧ d = .agg [.lit (.int .u32 (a : Int)), .lit (.int .u32 (b : Int))] ∧ p = [] := by
  obtain ⟨cs, rfl, hsz, _⟩ : ∃ cs, v = .agg cs ∧ cs.size = Tryd.prog.cellsOf 25 ∧ Row.okWide Tryd.prog w r b0 25 cs := by
    simpa [Value.okWide, Tryd.underlying25] using hv
  obtain ⟨c0, c1, rfl⟩ := Go.Joins.array2 (hsz.trans cellsSet)
  obtain ⟨fuel, hf⟩ := h
  obtain ⟨xs, m, _, hx, _, hl, hg⟩ := Go.DataW.trod_array Tryd.underlying25 hf
  have h0 := hg 0 (by omega)
  have h1 := hg 1 (by omega)
  rw [cellsU32] at h0 h1
  match xs, hl with
  | [y0, y1], _ =>
    simp [Value.cells] at h0 h1
    obtain ⟨x0, e0, rfl, q0⟩ := DataW.trod_int Tryd.underlying23 h0
    obtain ⟨x1, e1, rfl, q1⟩ := DataW.trod_int Tryd.underlying23 h1
    simp at e0 e1
    subst e0 e1
    have b0' := bounds_u32 q0
    have b1' := bounds_u32 q1
    simp only [Prod.mk.injEq] at hx
    refine ⟨x0.toNat, x1.toNat, by omega, by omega, ?_, ?_, by simpa using hx.2⟩
    · rw [show ((x0.toNat : Nat) : Int) = x0 from by omega, show ((x1.toNat : Nat) : Int) = x1 from by omega]
    · rw [show ((x0.toNat : Nat) : Int) = x0 from by omega, show ((x1.toNat : Nat) : Int) = x1 from by omega]
      simpa using hx.1

theorem wf_u32 (a : Nat) (h : a < 4294967296) : (Lit.int .u32 (a : Int)).wf = true := by
  simp [Lit.wf, IntKind.min, IntKind.max, IntKind.signed, IntKind.bits]; omega
theorem shut_set (a b : Nat) (ha : a < 4294967296) (hb : b < 4294967296) :
    DataW.Trod enc Tryd.prog w base spare held 25 (.agg #[.int .u32 (a : Int), .int .u32 (b : Int)]) (.agg [.lit (.int .u32 (a : Int)), .lit (.int .u32 (b : Int))]) [] :=
  ⟨2, by simp [DataW.trod, Value.cells, Tryd.underlying25, Tryd.underlying23, cellsSet, cellsU32, wf_u32 a ha, wf_u32 b hb, show List.range 2 = [0, 1] from rfl]⟩
end
end Go.Proofs.YthpinbngggcgcaaDoor
