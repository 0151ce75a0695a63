/-
  Chains and the loops over iterators: what a loop's own steps leave as it was.
-/
import Derived.Test.YtkhkhjkacibocaaChLead
import Derived.Test.YtkhkhjkacibocaaCmNest
namespace Go.Proofs.Ytkhkhjkacibocaa
open Go.RowKit Go.Maps Go.ChangeMaps Go.Shelf

/-- Blocks of cells. -/
def TC (o : Obj) : Prop := o.isCells = true
section
variable {N : Nat} {X Y w : World} {D D' : Nat → Nat → Prop} {B c : Nat} {t : TypeId} {L : List Lk} {x : Lk} {nx : Option Nat} {Pr : Nat → Prop}
theorem TC_cells : ∀ o, TC o → o.isCells = true := fun _ h => h
theorem Blk.chR {g : Nat} {cs : Array Value} (h : Blk X g t cs) (k : ChR N X Y) : Blk Y g t cs := k.cells _ _ h rfl
theorem boxed_chR {g : Nat} {v : Value} (h : Boxed X g t v) (k : ChR N X Y) : Boxed Y g t v := k.cells _ _ h rfl
theorem LkAt.chR (h : LkAt X x nx) (k : ChR N X Y) : LkAt Y x nx := ⟨h.blk.chR k, h.pos, h.fit, h.big, by obtain ⟨cs, h1, h2⟩ := h.dat; exact ⟨cs, h1.chR k, h2⟩⟩
theorem Lks.chR : ∀ {L : List Lk}, Lks X L → ChR N X Y → Lks Y L
  | [], _, _ => trivial
  | _ :: _, h, k => ⟨h.1.chR k, Lks.chR h.2 k⟩
theorem Cn.chR (h : Cn X B t c L) (k : ChR N X Y) : Cn Y B t c L := ⟨h.blk.chR k, h.ht, h.lks.chR k, h.sep, h.lo, h.le⟩
theorem cells_of_cell {b i : Nat} {v : Value} (h : X.cell? ⟨b, i, none⟩ = some v) : ∃ o, X.heap[b]? = some o ∧ o.isCells = true := by
  unfold World.cell? at h
  cases hb : X.heap[b]? with
  | none => simp [hb] at h
  | some o =>
    refine ⟨o, rfl, ?_⟩
    cases o with
    | cells cs t mk => rfl
    | _ => simp [hb] at h
theorem Src.chR {A : Option Addr} {n cp : Nat} {zs : List Int} (h : Src X D A n cp zs) (k : ChR N X Y) : Src Y D A n cp zs := ⟨h.len, h.le, h.big, h.nil, h.spot, fun h0 => by
  obtain ⟨b, o, e, hb, hc⟩ := h.at_ h0
  refine ⟨b, o, e, Nat.lt_of_lt_of_le hb k.size, fun i z hz => ⟨(hc i z hz).1, ?_⟩⟩
  obtain ⟨ob, h1, h2⟩ := cells_of_cell (hc i z hz).2
  exact (World.cell?_of_block (a := ⟨b, o + i, none⟩) ((k.cells _ _ h1 h2).trans h1.symm)).trans (hc i z hz).2⟩
theorem Kc.chR (h : Kc D w X) (k : ChR N X Y) (hN : w.heap.size ≤ N) : Kc D w Y :=
  ⟨k.os.trans h.os, k.tape.trans h.tape, k.output.trans h.output, Nat.le_trans h.size k.size, fun i hi => by rw [k.low i (by omega) (Nat.lt_of_lt_of_le hi h.size)]; exact h.block i hi⟩
theorem Mc.chR (h : Mc w X D D') (k : ChR N X Y) (hN : w.heap.size ≤ N) : Mc w Y D D' := ⟨h.k.chR k hN, h.o⟩
theorem below_chR (h : Below w.heap.size w X) (k : ChR N X Y) (hN : w.heap.size ≤ N) : Below w.heap.size w Y :=
  ⟨k.os.trans h.os, k.tape.trans h.tape, k.output.trans h.output, Nat.le_trans h.size k.size, fun i hi => (k.low i (by omega) (Nat.lt_of_lt_of_le hi h.size)).trans (h.block i hi)⟩
theorem KpO.of_kc (h : Kc D X Y) (hD : ∀ k, k < N → Pr k → ∀ i, ¬ D k i) : KpO TC N Pr X Y :=
  ⟨h.size, fun k hk hl hp => h.same hl (hD k hk hp), fun k o _ ho hT => by
    rcases h.block k (Array.getElem?_eq_some_iff.1 ho).1 with e | ⟨cs, cs', t, e1, _⟩
    · exact e.trans ho
    · rw [ho] at e1; cases e1; exact absurd rfl hT⟩
theorem KeepsFrom.of_kc (h : Kc D X Y) : KeepsFrom N X Y :=
  ⟨h.size, fun k o _ ho hc => by
    rcases h.block k (Array.getElem?_eq_some_iff.1 ho).1 with e | ⟨cs, cs', t, e1, _⟩
    · exact e.trans ho
    · rw [ho] at e1; cases e1; cases hc⟩
end
end Go.Proofs.Ytkhkhjkacibocaa
