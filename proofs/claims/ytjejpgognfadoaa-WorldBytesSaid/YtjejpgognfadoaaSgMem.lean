/-
  How a table lies in memory, and the contracts of the calls without an iterator: New, check, Handle, Raise, Handled, Count, List, Copy.
-/
import Derived.Test.YtjejpgognfadoaaCmMem
import Derived.Test.YtjejpgognfadoaaSgPure
import Derived.BigRegion
namespace Go.Proofs.Ytjejpgognfadoaa
open Go.RowKit

theorem ret_int {k : IntKind} {a b : Int} (h : a = b) : Ending.returned (.int k a) = .returned (.int k b) := by rw [h]
theorem ret_bool {a b : Bool} (h : a = b) : Ending.returned (.bool a) = .returned (.bool b) := by rw [h]

def hList (s : T) : List Value := (List.range 32).map fun i => Value.bool (s.h i)
def cList (s : T) : List Value := (List.range 32).map fun i => Value.int .i64 (s.c i : Int)
def cellsT (s : T) : Array Value := (hList s ++ cList s).toArray
theorem hList_len (s : T) : (hList s).length = 32 := by simp [hList]
theorem cList_len (s : T) : (cList s).length = 32 := by simp [cList]
theorem cellsT_size (s : T) : (cellsT s).size = 64 := by simp [cellsT, hList_len, cList_len]
theorem cellsT_h (s : T) {i : Nat} (hi : i < 32) : (cellsT s)[i]? = some (.bool (s.h i)) := by
  show ((hList s ++ cList s).toArray)[i]? = _
  rw [List.getElem?_toArray, List.getElem?_append_left (by rw [hList_len]; exact hi)]
  simp [hList, hi]
theorem cellsT_c (s : T) {i : Nat} (hi : i < 32) : (cellsT s)[32 + i]? = some (.int .i64 (s.c i : Int)) := by
  show ((hList s ++ cList s).toArray)[32 + i]? = _
  rw [List.getElem?_toArray, List.getElem?_append_right (by rw [hList_len]; omega), hList_len, Nat.add_sub_cancel_left]
  simp [cList, hi]
theorem cells_ext {a : Array Value} (s : T) (hs : a.size = 64) (h1 : ∀ i, i < 32 → a[i]? = some (.bool (s.h i))) (h2 : ∀ i, i < 32 → a[32 + i]? = some (.int .i64 (s.c i : Int))) : a = cellsT s := by
  apply Array.ext_getElem?
  intro i
  by_cases hi : i < 32
  · rw [h1 i hi, cellsT_h s hi]
  · by_cases hj : i < 64
    · obtain ⟨j, rfl⟩ : ∃ j, i = 32 + j := ⟨i - 32, by omega⟩
      rw [h2 j (by omega), cellsT_c s (by omega)]
    · rw [Array.getElem?_eq_none (by omega), Array.getElem?_eq_none (by rw [cellsT_size]; omega)]
theorem set_h (s : T) {i : Nat} (hi : i < 32) (b : Bool) : (cellsT s).setIfInBounds i (.bool b) = cellsT ⟨upd s.h i b, s.c⟩ := by
  refine cells_ext _ (by rw [Array.size_setIfInBounds, cellsT_size]) (fun j hj => ?_) (fun j hj => ?_)
  · rw [Array.getElem?_setIfInBounds]
    by_cases e : i = j
    · subst e
      rw [if_pos rfl, if_pos (by rw [cellsT_size]; omega)]
      show _ = some (Value.bool (upd s.h i b i))
      rw [upd_same]
    · rw [if_neg e, cellsT_h s hj]
      show _ = some (Value.bool (upd s.h i b j))
      rw [upd_other _ _ (fun h => e h.symm)]
  · rw [Array.getElem?_setIfInBounds, if_neg (by omega), cellsT_c s hj]
theorem set_c (s : T) {i : Nat} (hi : i < 32) (n : Nat) : (cellsT s).setIfInBounds (32 + i) (.int .i64 (n : Int)) = cellsT ⟨s.h, upd s.c i n⟩ := by
  refine cells_ext _ (by rw [Array.size_setIfInBounds, cellsT_size]) (fun j hj => ?_) (fun j hj => ?_)
  · rw [Array.getElem?_setIfInBounds, if_neg (by omega), cellsT_h s hj]
  · rw [Array.getElem?_setIfInBounds]
    by_cases e : i = j
    · subst e
      rw [if_pos rfl, if_pos (by rw [cellsT_size]; omega)]
      show _ = some (Value.int .i64 ((upd s.c i n i : Nat) : Int))
      rw [upd_same]
    · rw [if_neg (by omega), cellsT_c s hj]
      show _ = some (Value.int .i64 ((upd s.c i n j : Nat) : Int))
      rw [upd_other _ _ (fun h => e h.symm)]

/-- A table in memory. -/
def Tb (w : World) (k : Nat) (s : T) : Prop := Blk w k 80 (cellsT s)
section
variable {w w' : World} {k : Nat} {s : T}
theorem Tb.lt (h : Tb w k s) : k < w.heap.size := Blk.lt h
theorem Tb.same (h : Tb w k s) (e : w'.heap[k]? = w.heap[k]?) : Tb w' k s := Blk.same h e
theorem Tb.kept {F : Nat → Prop} (h : Tb w k s) (q : Kept F w w') (hf : ¬ F k) : Tb w' k s := Blk.kept h q hf
theorem Tb.below (h : Tb w k s) (hb : Below w.heap.size w w') : Tb w' k s := h.same (hb.block k h.lt)
theorem Tb.alloc (h : Tb w k s) (o : Obj) : Tb (w.alloc o) k s := Blk.alloc h o
theorem Tb.h_ (h : Tb w k s) {i : Nat} (hi : i < 32) : w.cell? ⟨k, i, none⟩ = some (.bool (s.h i)) := (Blk.cell h i).trans (cellsT_h s hi)
theorem Tb.c_ (h : Tb w k s) {i : Nat} (hi : i < 32) : w.cell? ⟨k, 32 + i, none⟩ = some (.int .i64 (s.c i : Int)) := (Blk.cell h (32 + i)).trans (cellsT_c s hi)
theorem Tb.setH (h : Tb w k s) {i : Nat} (hi : i < 32) (b : Bool) : Tb (w.setCell ⟨k, i, none⟩ (.bool b)) k ⟨upd s.h i b, s.c⟩ := by
  have := Blk.set_ h i (.bool b)
  rw [set_h s hi] at this
  exact this
theorem Tb.setC (h : Tb w k s) {i : Nat} (hi : i < 32) (n : Nat) : Tb (w.setCell ⟨k, 32 + i, none⟩ (.int .i64 (n : Int))) k ⟨s.h, upd s.c i n⟩ := by
  have := Blk.set_ h (32 + i) (.int .i64 (n : Int))
  rw [set_c s hi] at this
  exact this
end

theorem cells_new : #[Value.bool false, .bool false, .bool false, .bool false, .bool false, .bool false, .bool false, .bool false, .bool false, .bool false, .bool false, .bool false, .bool false, .bool false, .bool false, .bool false, .bool false, .bool false, .bool false, .bool false, .bool false, .bool false, .bool false, .bool false, .bool false, .bool false, .bool false, .bool false, .bool false, .bool false, .bool false, .bool false, .int .i64 0, .int .i64 0, .int .i64 0, .int .i64 0, .int .i64 0, .int .i64 0, .int .i64 0, .int .i64 0, .int .i64 0, .int .i64 0, .int .i64 0, .int .i64 0, .int .i64 0, .int .i64 0, .int .i64 0, .int .i64 0, .int .i64 0, .int .i64 0, .int .i64 0, .int .i64 0, .int .i64 0, .int .i64 0, .int .i64 0, .int .i64 0, .int .i64 0, .int .i64 0, .int .i64 0, .int .i64 0, .int .i64 0, .int .i64 0, .int .i64 0, .int .i64 0] = cellsT T.new := rfl
theorem Tb.fresh (w : World) : Tb (w.alloc (.cells (cellsT T.new) 80)) w.heap.size T.new := Blk.new w _ _
theorem Kept.one {w w' : World} {k i : Nat} (h : Kept (fun j => j = k) w w') (u : Value) : Kept (fun j => j = k) w (w'.setCell ⟨k, i, none⟩ u) := h.setCell (p := ⟨k, i, none⟩) rfl u
theorem new_any (w : World) : Calls Try.prog 16 #[] w fun x w' => x = .returned (.pointer (some ⟨w.heap.size, 0, none⟩)) ∧ Tb w' w.heap.size T.new ∧ Kept (fun _ => False) w w' := by
  go_enter Try.func16, Try.ntmps16
  go_wp2_with fail
  go_ret
  exact ⟨rfl, Tb.fresh w, (Kept.refl _ w).alloc _⟩

section
variable {w : World} {k : Nat} {s : T}
end
end Go.Proofs.Ytjejpgognfadoaa
