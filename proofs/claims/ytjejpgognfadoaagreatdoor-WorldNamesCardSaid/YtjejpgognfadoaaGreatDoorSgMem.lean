/-
  How a table lies in memory, and the contracts of the calls without an iterator: New, check, Handle, Raise, Handled, Count, List, Copy.
-/
import Derived.Test.YtjejpgognfadoaaGreatDoorCmMem
import Derived.Test.YtjejpgognfadoaaGreatDoorSgPure
import Derived.BigRegion
namespace Go.Proofs.YtjejpgognfadoaaGreatDoor
open Go.RowKit

theorem ret_int {k : IntKind} {a b : Int} (h : a = b) : Ending.returned (.int k a) = .returned (.int k b) := by rw [h]
theorem ret_bool {a b : Bool} (h : a = b) : Ending.returned (.bool a) = .returned (.bool b) := by rw [h]

def hList (s : T) : List Value := (List.range 32).map fun i => Value.bool (s.h i)
def cList (s : T) : List Value := (List.range 32).map fun i => Value.int .i64 (s.c i : Int)
def cellsT (s : T) : Array Value := (hList s ++ cList s).toArray
theorem hList_len (s : T) : (hList s).length = 32 := by simp [hList]
theorem cList_len (s : T) : (cList s).length = 32 := by simp [cList]
theorem cellsT_size (s : T) : (cellsT s).size = 64 := by simp [cellsT, hList_len, cList_len]
theorem cellsT_h (s : T) {i : Nat} (hi : i < 32) : (cellsT s)[i]? = some (.bool (s.h i)) := by
  show ((hList s ++ cList s).toArray)[i]? = _
  rw [List.getElem?_toArray, List.getElem?_append_left (by rw [hList_len]; exact hi)]
  simp [hList, hi]
theorem cellsT_c (s : T) {i : Nat} (hi : i < 32) : (cellsT s)[32 + i]? = some (.int .i64 (s.c i : Int)) := by
  show ((hList s ++ cList s).toArray)[32 + i]? = _
  rw [List.getElem?_toArray, List.getElem?_append_right (by rw [hList_len]; omega), hList_len, Nat.add_sub_cancel_left]
  simp [cList, hi]
theorem cells_ext {a : Array Value} (s : T) (hs : a.size = 64) (h1 : ∀ i, i < 32 → a[i]? = some (.bool (s.h i))) (h2 : ∀ i, i < 32 → a[32 + i]? = some (.int .i64 (s.c i : Int))) : a = cellsT s := by
  apply Array.ext_getElem?
  intro i
  by_cases hi : i < 32
  · rw [h1 i hi, cellsT_h s hi]
  · by_cases hj : i < 64
    · obtain ⟨j, rfl⟩ : ∃ j, i = 32 + j := ⟨i - 32, by omega⟩
      rw [h2 j (by omega), cellsT_c s (by omega)]
    · rw [Array.getElem?_eq_none (by omega), Array.getElem?_eq_none (by rw [cellsT_size]; omega)]
theorem set_h (s : T) {i : Nat} (hi : i < 32) (b : Bool) : (cellsT s).setIfInBounds i (.bool b) = cellsT ⟨upd s.h i b, s.c⟩ := by
  refine cells_ext _ (by rw [Array.size_setIfInBounds, cellsT_size]) (fun j hj => ?_) (fun j hj => ?_)
  · rw [Array.getElem?_setIfInBounds]
    by_cases e : i = j
    · subst e
      rw [if_pos rfl, if_pos (by rw [cellsT_size]; omega)]
      show _ = some (Value.bool (upd s.h i b i))
      rw [upd_same]
    · rw [if_neg e, cellsT_h s hj]
      show _ = some (Value.bool (upd s.h i b j))
      rw [upd_other _ _ (fun h => e h.symm)]
  · rw [Array.getElem?_setIfInBounds, if_neg (by omega), cellsT_c s hj]
theorem set_c (s : T) {i : Nat} (hi : i < 32) (n : Nat) : (cellsT s).setIfInBounds (32 + i) (.int .i64 (n : Int)) = cellsT ⟨s.h, upd s.c i n⟩ := by
  refine cells_ext _ (by rw [Array.size_setIfInBounds, cellsT_size]) (fun j hj => ?_) (fun j hj => ?_)
  · rw [Array.getElem?_setIfInBounds, if_neg (by omega), cellsT_h s hj]
  · rw [Array.getElem?_setIfInBounds]
    by_cases e : i = j
    · subst e
      rw [if_pos rfl, if_pos (by rw [cellsT_size]; omega)]
      show _ = some (Value.int .i64 ((upd s.c i n i : Nat) : Int))
      rw [upd_same]
    · rw [if_neg (by omega), cellsT_c s hj]
      show _ = some (Value.int .i64 ((upd s.c i n j : Nat) : Int))
      rw [upd_other _ _ (fun h => e h.symm)]

/-- A table in memory. -/
def Tb (w : World) (k : Nat) (s : T) : Prop := Blk w k 99 (cellsT s)
section
variable {w w' : World} {k : Nat} {s : T}
theorem Tb.lt (h : Tb w k s) : k < w.heap.size := Blk.lt h
theorem Tb.same (h : Tb w k s) (e : w'.heap[k]? = w.heap[k]?) : Tb w' k s := Blk.same h e
theorem Tb.kept {F : Nat → Prop} (h : Tb w k s) (q : Kept F w w') (hf : ¬ F k) : Tb w' k s := Blk.kept h q hf
theorem Tb.below (h : Tb w k s) (hb : Below w.heap.size w w') : Tb w' k s := h.same (hb.block k h.lt)
theorem Tb.alloc (h : Tb w k s) (o : Obj) : Tb (w.alloc o) k s := Blk.alloc h o
theorem Tb.h_ (h : Tb w k s) {i : Nat} (hi : i < 32) : w.cell? ⟨k, i, none⟩ = some (.bool (s.h i)) := (Blk.cell h i).trans (cellsT_h s hi)
theorem Tb.c_ (h : Tb w k s) {i : Nat} (hi : i < 32) : w.cell? ⟨k, 32 + i, none⟩ = some (.int .i64 (s.c i : Int)) := (Blk.cell h (32 + i)).trans (cellsT_c s hi)
theorem Tb.setH (h : Tb w k s) {i : Nat} (hi : i < 32) (b : Bool) : Tb (w.setCell ⟨k, i, none⟩ (.bool b)) k ⟨upd s.h i b, s.c⟩ := by
  have := Blk.set_ h i (.bool b)
  rw [set_h s hi] at this
  exact this
theorem Tb.setC (h : Tb w k s) {i : Nat} (hi : i < 32) (n : Nat) : Tb (w.setCell ⟨k, 32 + i, none⟩ (.int .i64 (n : Int))) k ⟨s.h, upd s.c i n⟩ := by
  have := Blk.set_ h (32 + i) (.int .i64 (n : Int))
  rw [set_c s hi] at this
  exact this
end

theorem cells_new : #[Value.bool false, .bool false, .bool false, .bool false, .bool false, .bool false, .bool false, .bool false, .bool false, .bool false, .bool false, .bool false, .bool false, .bool false, .bool false, .bool false, .bool false, .bool false, .bool false, .bool false, .bool false, .bool false, .bool false, .bool false, .bool false, .bool false, .bool false, .bool false, .bool false, .bool false, .bool false, .bool false, .int .i64 0, .int .i64 0, .int .i64 0, .int .i64 0, .int .i64 0, .int .i64 0, .int .i64 0, .int .i64 0, .int .i64 0, .int .i64 0, .int .i64 0, .int .i64 0, .int .i64 0, .int .i64 0, .int .i64 0, .int .i64 0, .int .i64 0, .int .i64 0, .int .i64 0, .int .i64 0, .int .i64 0, .int .i64 0, .int .i64 0, .int .i64 0, .int .i64 0, .int .i64 0, .int .i64 0, .int .i64 0, .int .i64 0, .int .i64 0, .int .i64 0, .int .i64 0] = cellsT T.new := rfl
theorem Tb.fresh (w : World) : Tb (w.alloc (.cells (cellsT T.new) 99)) w.heap.size T.new := Blk.new w _ _
theorem Kept.one {w w' : World} {k i : Nat} (h : Kept (fun j => j = k) w w') (u : Value) : Kept (fun j => j = k) w (w'.setCell ⟨k, i, none⟩ u) := h.setCell (p := ⟨k, i, none⟩) rfl u
theorem new_any (w : World) : Calls Tryz.prog 29 #[] w fun x w' => x = .returned (.pointer (some ⟨w.heap.size, 0, none⟩)) ∧ Tb w' w.heap.size T.new ∧ Kept (fun _ => False) w w' := by
  go_enter Tryz.func29, Tryz.ntmps29
  go_wp2_with fail
  go_ret
  exact ⟨rfl, Tb.fresh w, (Kept.refl _ w).alloc _⟩

theorem check_yes {i : Nat} (h1 : 1 ≤ i) (h2 : i ≤ 31) (k : Nat) (w : World) : Calls Tryz.prog 75 #[.pointer (some ⟨k, 0, none⟩), .int .i64 (i : Int)] w fun x w' => x = .returned (.int .i64 0) ∧ w = w' := by
  go_enter Tryz.func75, Tryz.ntmps75
  go_wp2_with fail
  go_ret
  exact ⟨rfl, rfl⟩
theorem check_no {n : Int} (h : isSig n = false) (k : Nat) (w : World) : Calls Tryz.prog 75 #[.pointer (some ⟨k, 0, none⟩), .int .i64 n] w fun x w' => x = .returned (.int .i64 100) ∧ w = w' := by
  rcases isSig_no.1 h with h1 | h1
  · clear h
    go_enter Tryz.func75, Tryz.ntmps75
    go_wp2_with fail
    go_ret
    exact ⟨rfl, rfl⟩
  · have h2 : 1 ≤ n := by omega
    clear h
    go_enter Tryz.func75, Tryz.ntmps75
    go_wp2_with fail
    go_ret
    exact ⟨rfl, rfl⟩
theorem check_nil (n : Int) (w : World) : Calls Tryz.prog 75 #[.pointer none, .int .i64 n] w fun x w' => x = .returned (.int .i64 1) ∧ w = w' := by
  go_enter Tryz.func75, Tryz.ntmps75
  go_wp2_with fail
  go_ret
  exact ⟨rfl, rfl⟩

section
variable {w : World} {k : Nat} {s : T}
theorem handle_yes (H : Tb w k s) {i : Nat} (h1 : 1 ≤ i) (h2 : i ≤ 31) (on : Bool) :
    Calls Tryz.prog 55 #[.pointer (some ⟨k, 0, none⟩), .int .i64 (i : Int), .bool on] w fun x w' => x = .returned (.int .i64 0) ∧ Tb w' k (s.set i on) ∧ Kept (fun j => j = k) w w' := by
  have c0 := H.h_ (i := i) (by omega)
  have c1 := H.c_ (i := i) (by omega)
  have f0 := Blk.frozen H i
  have f1 := Blk.frozen H (32 + i)
  have lk := H.lt
  have HC := Lib.hid (check_yes h1 h2 k w)
  have HH := Lib.hid H
  clear H
  cases on with
  | false =>
    go_enter Tryz.func55, Tryz.ntmps55
    go_wp2_with fail
    refine HC.out.mono ?_
    rintro e w1 ⟨rfl, rfl⟩
    go_wp2_with fail
    go_ret
    refine ⟨rfl, ?_, ?_⟩
    · have := (HH.out.setH (i := i) (by omega) false).setC (i := i) (by omega) 0
      exact this
    · exact ((Kept.refl _ w).one _).one _
  | true =>
    go_enter Tryz.func55, Tryz.ntmps55
    go_wp2_with fail
    refine HC.out.mono ?_
    rintro e w1 ⟨rfl, rfl⟩
    go_wp2_with fail
    go_ret
    exact ⟨rfl, HH.out.setH (i := i) (by omega) true, (Kept.refl _ w).one _⟩
theorem handle_any (H : Tb w k s) (n : Int) (on : Bool) :
    Calls Tryz.prog 55 #[.pointer (some ⟨k, 0, none⟩), .int .i64 n, .bool on] w fun x w' => x = .returned (.int .i64 (code n)) ∧ Tb w' k (s.handle n on) ∧ Kept (fun j => j = k) w w' := by
  cases h : isSig n with
  | true =>
    obtain ⟨i, rfl, h1, h2⟩ := isSig_nat h
    have e1 : code (i : Int) = 0 := by unfold code; rw [h]; rfl
    have e2 : s.handle (i : Int) on = s.set i on := by unfold T.handle; rw [h]; rfl
    rw [e1, e2]
    exact handle_yes H h1 h2 on
  | false =>
    have e1 : code n = 100 := by unfold code; rw [h]; rfl
    have e2 : s.handle n on = s := by unfold T.handle; rw [h]; rfl
    rw [e1, e2]
    have HC := Lib.hid (check_no h k w)
    have HH := Lib.hid H
    clear H e1 e2 h
    go_enter Tryz.func55, Tryz.ntmps55
    go_wp2_with fail
    refine HC.out.mono ?_
    rintro e w1 ⟨rfl, rfl⟩
    go_wp2_with fail
    go_ret
    exact ⟨rfl, HH.out, Kept.refl _ _⟩
theorem handle_nil (n : Int) (on : Bool) (w : World) :
    Calls Tryz.prog 55 #[.pointer none, .int .i64 n, .bool on] w fun x w' => x = .returned (.int .i64 1) ∧ w = w' := by
  have HC := Lib.hid (check_nil n w)
  go_enter Tryz.func55, Tryz.ntmps55
  go_wp2_with fail
  refine HC.out.mono ?_
  rintro e w1 ⟨rfl, rfl⟩
  go_wp2_with fail
  go_ret
  exact ⟨rfl, rfl⟩

set_option maxRecDepth 100000 in
theorem raise_yes (H : Tb w k s) {i : Nat} (h1 : 1 ≤ i) (h2 : i ≤ 31) (hc : s.c i < 2147483647) :
    Calls Tryz.prog 56 #[.pointer (some ⟨k, 0, none⟩), .int .i64 (i : Int)] w fun x w' => x = .returned (.int .i64 0) ∧ Tb w' k (s.raise i) ∧ Kept (fun j => j = k) w w' := by
  have c0 := H.h_ (i := i) (by omega)
  have c1 := H.c_ (i := i) (by omega)
  have f1 := Blk.frozen H (32 + i)
  have lk := H.lt
  have HC := Lib.hid (check_yes h1 h2 k w)
  have HH := Lib.hid H
  clear H
  cases hh : s.h i with
  | false =>
    have HE := Lib.hid (show s.raise i = s by unfold T.raise; rw [hh]; rfl)
    rw [hh] at c0
    clear hh
    go_enter Tryz.func56, Tryz.ntmps56
    go_wp2_with fail
    refine HC.out.mono ?_
    rintro e w1 ⟨rfl, rfl⟩
    go_wp2_with fail
    go_ret
    rw [HE.out]
    exact ⟨rfl, HH.out, Kept.refl _ _⟩
  | true =>
    have HE := Lib.hid (show s.raise i = ⟨s.h, upd s.c i (s.c i + 1)⟩ by unfold T.raise; rw [hh]; rfl)
    rw [hh] at c0
    clear hh
    have hlt : (s.c i : Int) < 2147483647 := by omega
    have b0 : (0 : Int) ≤ (i : Int) := by omega
    have b1 : (i : Int) < 32 := by omega
    have hw : IntKind.i64.wrap ((s.c i : Int) + 1) = (s.c i : Int) + 1 := by rw [IntKind.wrap_i64]; omega
    go_enter Tryz.func56, Tryz.ntmps56
    go_wp2_with fail
    refine HC.out.mono ?_
    rintro e w1 ⟨rfl, rfl⟩
    go_wp2_with fail
    go_still_tail 10, (by kernel_rfl)
    change wpList _ _ _ _ _ w.drew
    go_wp2_with fail
    go_ret
    rw [HE.out]
    refine ⟨rfl, ?_, (Kept.refl _ w).drew.one _⟩
    have h6 : Tb w.drew k s := HH.out.same rfl
    exact h6.setC (i := i) (by omega) (s.c i + 1)
theorem raise_any (H : Tb w k s) (n : Int) (hc : s.le 2147483646) :
    Calls Tryz.prog 56 #[.pointer (some ⟨k, 0, none⟩), .int .i64 n] w fun x w' => x = .returned (.int .i64 (code n)) ∧ Tb w' k (s.rise n) ∧ Kept (fun j => j = k) w w' := by
  cases h : isSig n with
  | true =>
    obtain ⟨i, rfl, h1, h2⟩ := isSig_nat h
    have e1 : code (i : Int) = 0 := by unfold code; rw [h]; rfl
    have e2 : s.rise (i : Int) = s.raise i := by unfold T.rise; rw [h]; rfl
    rw [e1, e2]
    exact raise_yes H h1 h2 (by have := hc i; omega)
  | false =>
    have e1 : code n = 100 := by unfold code; rw [h]; rfl
    have e2 : s.rise n = s := by unfold T.rise; rw [h]; rfl
    rw [e1, e2]
    have HC := Lib.hid (check_no h k w)
    have HH := Lib.hid H
    clear H e1 e2 h hc
    go_enter Tryz.func56, Tryz.ntmps56
    go_wp2_with fail
    refine HC.out.mono ?_
    rintro e w1 ⟨rfl, rfl⟩
    go_wp2_with fail
    go_ret
    exact ⟨rfl, HH.out, Kept.refl _ _⟩
theorem raise_nil (n : Int) (w : World) :
    Calls Tryz.prog 56 #[.pointer none, .int .i64 n] w fun x w' => x = .returned (.int .i64 1) ∧ w = w' := by
  have HC := Lib.hid (check_nil n w)
  go_enter Tryz.func56, Tryz.ntmps56
  go_wp2_with fail
  refine HC.out.mono ?_
  rintro e w1 ⟨rfl, rfl⟩
  go_wp2_with fail
  go_ret
  exact ⟨rfl, rfl⟩

theorem count_any (H : Tb w k s) (n : Int) :
    Calls Tryz.prog 66 #[.pointer (some ⟨k, 0, none⟩), .int .i64 n] w fun x w' => x = .returned (.int .i64 (s.count n)) ∧ w = w' := by
  cases h : isSig n with
  | true =>
    obtain ⟨i, rfl, h1, h2⟩ := isSig_nat h
    have e1 : s.count (i : Int) = (s.c i : Int) := by unfold T.count; rw [h]; rfl
    rw [e1]
    have c0 := H.c_ (i := i) (by omega)
    have lk := H.lt
    have HC := Lib.hid (check_yes h1 h2 k w)
    clear H h e1
    go_enter Tryz.func66, Tryz.ntmps66
    go_wp2_with fail
    refine HC.out.mono ?_
    rintro e w1 ⟨rfl, rfl⟩
    go_wp2_with fail
    go_ret
    exact ⟨rfl, rfl⟩
  | false =>
    have e1 : s.count n = 0 := by unfold T.count; rw [h]; rfl
    rw [e1]
    have HC := Lib.hid (check_no h k w)
    clear H h e1
    go_enter Tryz.func66, Tryz.ntmps66
    go_wp2_with fail
    refine HC.out.mono ?_
    rintro e w1 ⟨rfl, rfl⟩
    go_wp2_with fail
    go_ret
    exact ⟨rfl, rfl⟩
end
end Go.Proofs.YtjejpgognfadoaaGreatDoor
