/-
  Slices of numbers that come in, of any program.
-/
import Derived.Test.YtjejpgognfadoaaDoorCmMem
namespace Go.Proofs.YtjejpgognfadoaaDoor
open Go.RowKit

/-- A slice of numbers that came in. -/
def ArgN (kd : IntKind) (lo hi : Int) (w : World) (A : Option Addr) (l : List Int) : Prop :=
  (∀ x ∈ l, lo ≤ x ∧ x ≤ hi) ∧ (0 < l.length → ∃ b off, A = some ⟨b, off, none⟩ ∧ b < w.heap.size ∧ ∀ i x, l[i]? = some x → w.cell? ⟨b, off + i, none⟩ = some (.int kd x))
section
variable {kd : IntKind} {lo hi : Int} {w wr : World} {A : Option Addr} {l : List Int}
theorem ArgN.at_ (h : ArgN kd lo hi w A l) (hb : Below w.heap.size w wr) {k : Nat} (hk : k < l.length) :
    ∃ b off x, A = some ⟨b, off, none⟩ ∧ b < w.heap.size ∧ l[k]? = some x ∧ (lo ≤ x ∧ x ≤ hi) ∧ wr.cell? ⟨b, off + k, none⟩ = some (.int kd x) := by
  obtain ⟨b, off, e, hlt, hc⟩ := h.2 (by omega)
  have hz := List.getElem?_eq_getElem hk
  exact ⟨b, off, _, e, hlt, hz, h.1 _ (List.mem_of_getElem? hz), (hb.cell (p := ⟨b, _, none⟩) hlt).trans (hc k _ hz)⟩
theorem ArgN.below (h : ArgN kd lo hi w A l) (hb : Below w.heap.size w wr) : ArgN kd lo hi wr A l :=
  ⟨h.1, fun h0 => by
    obtain ⟨b, off, e, hlt, hc⟩ := h.2 h0
    exact ⟨b, off, e, Nat.lt_of_lt_of_le hlt hb.size, fun i x hx => (hb.cell (p := ⟨b, _, none⟩) hlt).trans (hc i x hx)⟩⟩
theorem argN_of {W : World} {a : Addr} {len cap : Nat} {zs : List Int} (hl : len ≤ cap) (hz : zs.length = cap) (hcell : ∀ i, i < zs.length → W.cell? (a.add i) = some (.int kd (zs.getD i 0))) (hb : ∀ z ∈ zs, lo ≤ z ∧ z ≤ hi) :
    ∃ A l, (some a : Option Addr) = A ∧ l.length = len ∧ ArgN kd lo hi W A l := by
  have hlen : (zs.take len).length = len := by rw [List.length_take]; omega
  refine ⟨_, zs.take len, rfl, hlen, fun z hz => hb z (List.mem_of_mem_take hz), fun h0 => ?_⟩
  rw [hlen] at h0
  obtain ⟨b, off, spot⟩ := a
  have h1 := hcell 0 (by omega)
  have hs : spot = none := by simpa [Addr.add] using World.cell?_spot h1
  subst hs
  have hadd : ∀ j, (⟨b, off, none⟩ : Addr).add j = ⟨b, off + j, none⟩ := fun j => by unfold Addr.add; split <;> simp_all
  refine ⟨b, off, rfl, ?_, fun i z hi => ?_⟩
  · have := World.block_lt_of_cell? W _ h1
    rw [hadd] at this
    exact this
  · rw [List.getElem?_take] at hi
    split at hi
    · have h2 := hcell i (by omega)
      rw [hadd] at h2
      rw [h2, List.getD_eq_getElem?_getD, hi]; rfl
    · cases hi
end
end Go.Proofs.YtjejpgognfadoaaDoor
