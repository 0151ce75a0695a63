/-
  For the frames of the chains' statements: bytes that come in.
-/
import Derived.Test.YtkhkhjkacibocaaRows
import Derived.Test.YtkhkhjkacibocaaChCutL
import Derived.ProofKit
import Derived.OpenShut
import Derived.Carry
import Derived.Deep.SlicePairs
namespace Go.Proofs.Ytkhkhjkacibocaa
open Go.ChangeShapes Go.WideShapes Go.ChangeAt Go.RowKit Go.Deep

theorem own : ownKnob Try.prog.godebug = none := by kernel_rfl
theorem laidOut : laidOutB Try.prog = true := by kernel_rfl
theorem i_of {n : Int} (h : (Lit.int .i64 n).wf = true) : -9223372036854775808 ≤ n ∧ n ≤ 9223372036854775807 := by have := bounds_i64 h; omega
theorem byte_of {z : Int} (h : (Lit.int .u8 z).wf = true) : 0 ≤ z ∧ z < 256 := by
  have := bounds_u8 h
  omega

theorem bytes_of {W : World} {a : Addr} {len cap : Nat} {zs : List Int} (hl : len ≤ cap) (hm : cap ≤ maxLen) (hz : zs.length = cap) (hcell : ∀ i, i < zs.length → W.cell? (a.add i) = some (.int .u8 (zs.getD i 0))) (hw : ∀ z ∈ zs, (Lit.int .u8 z).wf = true) :
    ∃ ys, Src W No2 (some a) len cap ys ∧ Byt ys := by
  have hlen : (zs.take len).length = len := by rw [List.length_take]; omega
  refine ⟨zs.take len, ⟨hlen, hl, by unfold maxLen at hm; omega, (fun e => by cases e), ?_, ?_⟩, fun z hz => byte_of (hw z (List.mem_of_mem_take hz))⟩
  · intro a' e h0
    cases e
    obtain ⟨b, off, spot⟩ := a
    have h1 := hcell 0 (by omega)
    simpa [Addr.add] using World.cell?_spot h1
  · intro h0
    obtain ⟨b, off, spot⟩ := a
    have h1 := hcell 0 (by omega)
    have hs : spot = none := by simpa [Addr.add] using World.cell?_spot h1
    subst hs
    have hadd : ∀ j, (⟨b, off, none⟩ : Addr).add j = ⟨b, off + j, none⟩ := fun j => by unfold Addr.add; split <;> simp_all
    refine ⟨b, off, rfl, ?_, fun i z hi => ⟨fun e => e, ?_⟩⟩
    · have := World.block_lt_of_cell? W _ h1
      rw [hadd] at this
      exact this
    · rw [List.getElem?_take] at hi
      split at hi
      · have h2 := hcell i (by omega)
        rw [hadd] at h2
        rw [h2, List.getD_eq_getElem?_getD, hi]; rfl
      · cases hi

theorem open_b {H : Type} {enc : TypeId × Value → H} {W : World} {base b0 : Nat} {held : Bool} {r : Reach} {v : Value} {d : DataW H} {p : List MemPlace}
    (hv : Value.okWide Try.prog W r b0 31 v) (h : DataW.Trod enc Try.prog W base (fun _ => true) held 31 v d p) : ∃ A n c zs, v = .slice A n c ∧ Src W No2 A n c zs ∧ Byt zs := by
  obtain ⟨a0, len0, cap0, rfl⟩ := okWide_slice Try.underlying31 hv
  obtain ⟨fuel, hf⟩ := h
  rcases open_ints Try.underlying31 Try.underlying5 (by kernel_rfl) hf with ⟨hcs, _⟩ | ⟨x, l, c, zs, hcs, _, hl, hm, hz, _, hcell, hw⟩
  · simp [Value.cells] at hcs
    obtain ⟨rfl, rfl, rfl⟩ := hcs
    exact ⟨none, 0, 0, [], rfl, Src.nl W No2, fun z hz => by simp at hz⟩
  · simp [Value.cells] at hcs
    obtain ⟨rfl, rfl, rfl⟩ := hcs
    obtain ⟨ys, h1, h2⟩ := bytes_of hl hm (by simpa using hz) hcell hw
    exact ⟨_, _, _, ys, rfl, h1, h2⟩
end Go.Proofs.Ytkhkhjkacibocaa
