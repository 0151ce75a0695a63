/-
  A whole struct or array out of a block, and into a part of one, of any program: the cells are whatever, no cell is unrolled.
-/
import Derived.Test.YtjejpgognfadoaaGreatDoorCmMem
import Derived.Laws.CopyRow
import Derived.Laws.Rows
namespace Go.Proofs.YtjejpgognfadoaaGreatDoor
open Go.RowKit

/-- A block's cells with some laid anew from a place on. -/
def putAt (cs : Array Value) (off : Nat) (c : Array Value) : Array Value := (cs.toList.take off ++ c.toList ++ cs.toList.drop (off + c.size)).toArray
theorem putAt_whole {cs c : Array Value} (h : c.size = cs.size) : putAt cs 0 c = c := by
  unfold putAt
  rw [List.take_zero, List.nil_append, Nat.zero_add, h, show cs.toList.drop cs.size = [] from List.drop_eq_nil_of_le (by simp), List.append_nil]
theorem blk_setRow {w : World} {g : Nat} {t : TypeId} {cs : Array Value} (h : Blk w g t cs) (c : Array Value) : Blk (w.setRow g c) g t c := setRow_heap w g cs c t (0, 0) h
theorem kept_setRow (w : World) (g : Nat) (c : Array Value) : Kept (fun j => j = g) w (w.setRow g c) :=
  ⟨rfl, rfl, rfl, by simp [World.setRow], fun k _ hf => by
    simp only [World.setRow]
    rw [Array.getElem?_modify, if_neg (fun e => hf e.symm)]⟩

section
variable {P : Program}
theorem run_storeVar_part {w : World} {g off : Nat} {t ty : TypeId} {cs c : Array Value} (hg : Blk w g t cs) (hi : (P.info? ty).map (·.size) = some c.size) (hfit : off + c.size ≤ cs.size) (h1 : ∀ v ∈ c, v.oneCell' = true) :
    (storeVar ty ⟨g, off, none⟩ (.agg c)).run P w = .ok () (w.setRow g (putAt cs off c)) := by
  have hs := run_storeCells_at P g off t c.toList 0 cs w hg (by simpa using hfit) (fun v hv => h1 v (by simpa using hv))
  cases hq : P.info? ty with
  | none => simp [hq] at hi
  | some i =>
    have hz : c.size = i.size := by simp [hq] at hi; omega
    simp only [Nat.add_zero, Array.length_toList] at hs
    simp [storeVar, sizeOf, typeInfo, hq, Value.cells, hz, putAt, hs]

theorem wpList_store_part {ops : Array Oper} {rest : List Oper} {o : Oper} {a : Act} {w : World} {Q : Exit → Act → World → Prop} (hgd : o.guard = none) (ty : TypeId) (x v : Operand) (ho : o.op = .store ty x v)
    {g off : Nat} (hx : a.eval x = .pointer (some ⟨g, off, none⟩)) {c : Array Value} (hv : a.eval v = .agg c) {t : TypeId} {cs : Array Value} (hg : Blk w g t cs) (hi : (P.info? ty).map (·.size) = some c.size) (hfit : off + c.size ≤ cs.size) (h1 : ∀ v ∈ c, v.oneCell' = true)
    (h : wpList P ops Q rest (a.put o.dst undef) (w.setRow g (putAt cs off c))) : wpList P ops Q (o :: rest) a w :=
  wpList_plain hgd fun K hK => by
    unfold Oper.wp execOp
    simp only [ho, hx, hv, Instr.storeAt, Instr.sureAddr, Sem.run_bind, Sem.run_pure, Result.andThen_ok, run_storeVar_part hg hi hfit h1]
    exact hK _ _ h
end
end Go.Proofs.YtjejpgognfadoaaGreatDoor
