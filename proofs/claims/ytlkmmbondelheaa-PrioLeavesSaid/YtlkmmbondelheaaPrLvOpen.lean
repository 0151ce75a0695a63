/-
  For the frame of PrioLeaves: slices of small numbers that come in.
-/
import Derived.Test.YtlkmmbondelheaaPrKeep
import Derived.Test.YtlkmmbondelheaaPrOpen
namespace Go.Proofs.Ytlkmmbondelheaa
open Go.ChangeShapes Go.WideShapes Go.ChangeAt Go.RowKit Go.Deep

theorem argN_of {kd : IntKind} {hi : Int} {W : World} {a : Addr} {len cap : Nat} {zs : List Int} (hl : len ≤ cap) (hz : zs.length = cap) (hcell : ∀ i, i < zs.length → W.cell? (a.add i) = some (.int kd (zs.getD i 0))) (hb : ∀ z ∈ zs, 0 ≤ z ∧ z ≤ hi) :
    ∃ A l, (some a : Option Addr) = A ∧ l.length = len ∧ ArgN kd hi W A l := by
  have hlen : (zs.take len).length = len := by rw [List.length_take]; omega
  refine ⟨_, zs.take len, rfl, hlen, fun z hz => hb z (List.mem_of_mem_take hz), fun h0 => ?_⟩
  rw [hlen] at h0
  obtain ⟨b, off, spot⟩ := a
  have h1 := hcell 0 (by omega)
  have hs : spot = none := by simpa [Addr.add] using World.cell?_spot h1
  subst hs
  have hadd : ∀ j, (⟨b, off, none⟩ : Addr).add j = ⟨b, off + j, none⟩ := fun j => by unfold Addr.add; split <;> simp_all
  refine ⟨b, off, rfl, ?_, fun i z hi => ?_⟩
  · have := World.block_lt_of_cell? W _ h1
    rw [hadd] at this
    exact this
  · rw [List.getElem?_take] at hi
    split at hi
    · have h2 := hcell i (by omega)
      rw [hadd] at h2
      rw [h2, List.getD_eq_getElem?_getD, hi]; rfl
    · cases hi

theorem open_u16 {H : Type} {enc : TypeId × Value → H} {W : World} {base b0 : Nat} {held : Bool} {r : Reach} {v : Value} {d : DataW H} {p : List MemPlace}
    (hv : Value.okWide Try.prog W r b0 57 v) (h : DataW.Trod enc Try.prog W base (fun _ => true) held 57 v d p) : ∃ A l c, v = .slice A l.length c ∧ ArgN .u16 65535 W A l := by
  obtain ⟨a0, len0, cap0, rfl⟩ := okWide_slice Try.underlying57 hv
  obtain ⟨fuel, hf⟩ := h
  rcases open_ints Try.underlying57 Try.underlying59 (by kernel_rfl) hf with ⟨hcs, _⟩ | ⟨x, l, c, zs, hcs, _, hl, hm, hz, _, hcell, hwz⟩
  · simp [Value.cells] at hcs
    obtain ⟨rfl, rfl, rfl⟩ := hcs
    exact ⟨none, [], 0, rfl, fun x hx => by simp at hx, fun h => by simp at h⟩
  · simp [Value.cells] at hcs
    obtain ⟨rfl, rfl, rfl⟩ := hcs
    obtain ⟨A, l, rfl, el, ha⟩ := argN_of hl (by simpa using hz) hcell (fun z hz => bounds_u16 (hwz z hz))
    exact ⟨_, l, cap0, by rw [el], ha⟩
theorem open_u8 {H : Type} {enc : TypeId × Value → H} {W : World} {base b0 : Nat} {held : Bool} {r : Reach} {v : Value} {d : DataW H} {p : List MemPlace}
    (hv : Value.okWide Try.prog W r b0 58 v) (h : DataW.Trod enc Try.prog W base (fun _ => true) held 58 v d p) : ∃ A l c, v = .slice A l.length c ∧ ArgN .u8 255 W A l := by
  obtain ⟨a0, len0, cap0, rfl⟩ := okWide_slice Try.underlying58 hv
  obtain ⟨fuel, hf⟩ := h
  rcases open_ints Try.underlying58 Try.underlying5 (by kernel_rfl) hf with ⟨hcs, _⟩ | ⟨x, l, c, zs, hcs, _, hl, hm, hz, _, hcell, hwz⟩
  · simp [Value.cells] at hcs
    obtain ⟨rfl, rfl, rfl⟩ := hcs
    exact ⟨none, [], 0, rfl, fun x hx => by simp at hx, fun h => by simp at h⟩
  · simp [Value.cells] at hcs
    obtain ⟨rfl, rfl, rfl⟩ := hcs
    obtain ⟨A, l, rfl, el, ha⟩ := argN_of hl (by simpa using hz) hcell (fun z hz => bounds_u8 (hwz z hz))
    exact ⟨_, l, cap0, by rw [el], ha⟩
end Go.Proofs.Ytlkmmbondelheaa
