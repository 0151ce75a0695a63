/-
  What the other texts stand on, in one.
-/
import Derived.Test.YtlephnfepofbbaaGreatDoorMtBaseA
import Derived.Lib.Hide
import Derived.BigRegion
import Derived.Laws.CopyRow
import Derived.Laws.Rows
import Derived.OwnWalkIn

/-
  Tables of signals as functions: which are handled, how often each is pending; what each call does, and answers.
-/
namespace Go.Proofs.YtlephnfepofbbaaGreatDoor

/-- A table: which signals are handled, and how often each is pending. -/
structure T where
  h : Nat → Bool
  c : Nat → Nat
def upd {α : Type} (f : Nat → α) (i : Nat) (v : α) : Nat → α := fun j => if j = i then v else f j
theorem upd_same {α : Type} (f : Nat → α) (i : Nat) (v : α) : upd f i v i = v := if_pos rfl
theorem upd_other {α : Type} (f : Nat → α) {i j : Nat} (v : α) (h : j ≠ i) : upd f i v j = f j := if_neg h

def T.new : T := ⟨fun _ => false, fun _ => 0⟩
def T.set (s : T) (i : Nat) (on : Bool) : T := ⟨upd s.h i on, if on then s.c else upd s.c i 0⟩
def T.raise (s : T) (i : Nat) : T := if s.h i then ⟨s.h, upd s.c i (s.c i + 1)⟩ else s
/-- Nothing is pending. -/
def T.idle (s : T) : T := ⟨s.h, fun _ => 0⟩

def isSig (n : Int) : Bool := decide (1 ≤ n ∧ n ≤ 31)
theorem isSig_yes {n : Int} : isSig n = true ↔ 1 ≤ n ∧ n ≤ 31 := by unfold isSig; exact decide_eq_true_iff
theorem isSig_no {n : Int} : isSig n = false ↔ n < 1 ∨ 31 < n := by unfold isSig; rw [decide_eq_false_iff_not]; omega
/-- A signal's number. -/
theorem isSig_nat {n : Int} (h : isSig n = true) : ∃ i : Nat, n = (i : Int) ∧ 1 ≤ i ∧ i ≤ 31 := by
  obtain ⟨h1, h2⟩ := isSig_yes.1 h
  exact ⟨n.toNat, by omega, by omega, by omega⟩
def code (n : Int) : Int := if isSig n then 0 else 100
def T.handle (s : T) (n : Int) (on : Bool) : T := if isSig n then s.set n.toNat on else s
def T.rise (s : T) (n : Int) : T := if isSig n then s.raise n.toNat else s
def T.has (s : T) (n : Int) : Bool := isSig n && s.h n.toNat
def T.count (s : T) (n : Int) : Int := if isSig n then (s.c n.toNat : Int) else 0
/-- What is pending of the first k numbers. -/
def T.pend (s : T) (k : Nat) : List (Nat × Nat) := ((List.range k).filter fun i => s.c i != 0).map fun i => (i, s.c i)
def T.list (s : T) (k : Nat) : List Nat := (List.range k).filter s.h
def sum2 (l : List (Nat × Nat)) : Nat := (l.map (·.2)).sum
def T.sum (s : T) : Nat := sum2 (s.pend 32)
/-- Nothing is pending more than N times. -/
def T.le (s : T) (N : Nat) : Prop := ∀ i, s.c i ≤ N
/-- Place 0 is no signal's. -/
def T.zero (s : T) : Prop := s.h 0 = false ∧ s.c 0 = 0

section
variable {s : T} {i k N M : Nat} {n : Int} {on : Bool}
theorem T.le.mono (h : s.le N) (hN : N ≤ M) : s.le M := fun i => Nat.le_trans (h i) hN
theorem T.le_new (N : Nat) : T.new.le N := fun _ => Nat.zero_le _
theorem T.le_idle (s : T) (N : Nat) : s.idle.le N := fun _ => Nat.zero_le _
theorem T.le_set (h : s.le N) (i : Nat) (on : Bool) : (s.set i on).le N := fun j => by
  unfold T.set
  cases on
  · show upd s.c i 0 j ≤ N
    unfold upd
    split
    · omega
    · exact h j
  · exact h j
theorem T.le_raise (h : s.le N) (i : Nat) : (s.raise i).le (N + 1) := fun j => by
  unfold T.raise
  split
  · show upd s.c i (s.c i + 1) j ≤ N + 1
    unfold upd
    split
    · have := h i; omega
    · have := h j; omega
  · have := h j; omega
theorem T.le_handle (h : s.le N) (n : Int) (on : Bool) : (s.handle n on).le N := by
  unfold T.handle
  split
  · exact T.le_set h _ _
  · exact h
theorem T.le_rise (h : s.le N) (n : Int) : (s.rise n).le (N + 1) := by
  unfold T.rise
  split
  · exact T.le_raise h _
  · exact h.mono (by omega)
theorem T.pend_succ (s : T) (k : Nat) : s.pend (k + 1) = if s.c k = 0 then s.pend k else s.pend k ++ [(k, s.c k)] := by
  unfold T.pend
  rw [List.range_succ, List.filter_append, List.map_append]
  by_cases h : s.c k = 0 <;> simp [h]
theorem T.pend_idle (s : T) (k : Nat) : s.idle.pend k = [] := by
  unfold T.pend T.idle
  simp
theorem T.pend_len (s : T) (k : Nat) : (s.pend k).length ≤ k := by
  unfold T.pend
  rw [List.length_map]
  exact Nat.le_trans (List.length_filter_le _ _) (by simp)
theorem T.list_succ (s : T) (k : Nat) : s.list (k + 1) = if s.h k then s.list k ++ [k] else s.list k := by
  unfold T.list
  rw [List.range_succ, List.filter_append]
  by_cases h : s.h k = true <;> simp [h]
theorem T.list_len (s : T) (k : Nat) : (s.list k).length ≤ k := Nat.le_trans (List.length_filter_le _ _) (by simp)
theorem sum2_append (a b : List (Nat × Nat)) : sum2 (a ++ b) = sum2 a + sum2 b := by simp [sum2]
theorem sum2_one (x : Nat × Nat) : sum2 [x] = x.2 := by simp [sum2]
/-- The sum of the first k counts. -/
def T.tot (s : T) : Nat → Nat
  | 0 => 0
  | k + 1 => s.tot k + s.c k
theorem T.sum_pend (s : T) : ∀ k, sum2 (s.pend k) = s.tot k
  | 0 => rfl
  | k + 1 => by
    rw [T.pend_succ]
    split
    · rename_i h; rw [T.sum_pend s k]; show _ = s.tot k + s.c k; omega
    · rw [sum2_append, sum2_one, T.sum_pend s k]; rfl
theorem T.tot_le (h : s.le N) : ∀ k, s.tot k ≤ k * N
  | 0 => by simp [T.tot]
  | k + 1 => by
    have := T.tot_le h k
    have := h k
    show s.tot k + s.c k ≤ (k + 1) * N
    rw [Nat.succ_mul]; omega
theorem sum2_take (l : List (Nat × Nat)) (k : Nat) : sum2 (l.take k) ≤ sum2 l := by
  conv => rhs; rw [← List.take_append_drop k l, sum2_append]
  omega
end
end Go.Proofs.YtlephnfepofbbaaGreatDoor

/-
  How a table lies in memory, and the contracts of the calls without an iterator: New, check, Handle, Raise, Handled, Count, List, Copy.
-/
namespace Go.Proofs.YtlephnfepofbbaaGreatDoor
open Go.RowKit

theorem ret_int {k : IntKind} {a b : Int} (h : a = b) : Ending.returned (.int k a) = .returned (.int k b) := by rw [h]
theorem ret_bool {a b : Bool} (h : a = b) : Ending.returned (.bool a) = .returned (.bool b) := by rw [h]

def hList (s : T) : List Value := (List.range 32).map fun i => Value.bool (s.h i)
def cList (s : T) : List Value := (List.range 32).map fun i => Value.int .i64 (s.c i : Int)
def cellsT (s : T) : Array Value := (hList s ++ cList s).toArray
theorem hList_len (s : T) : (hList s).length = 32 := by simp [hList]
theorem cList_len (s : T) : (cList s).length = 32 := by simp [cList]
theorem cellsT_size (s : T) : (cellsT s).size = 64 := by simp [cellsT, hList_len, cList_len]
theorem cellsT_h (s : T) {i : Nat} (hi : i < 32) : (cellsT s)[i]? = some (.bool (s.h i)) := by
  show ((hList s ++ cList s).toArray)[i]? = _
  rw [List.getElem?_toArray, List.getElem?_append_left (by rw [hList_len]; exact hi)]
  simp [hList, hi]
theorem cellsT_c (s : T) {i : Nat} (hi : i < 32) : (cellsT s)[32 + i]? = some (.int .i64 (s.c i : Int)) := by
  show ((hList s ++ cList s).toArray)[32 + i]? = _
  rw [List.getElem?_toArray, List.getElem?_append_right (by rw [hList_len]; omega), hList_len, Nat.add_sub_cancel_left]
  simp [cList, hi]
theorem cells_ext {a : Array Value} (s : T) (hs : a.size = 64) (h1 : ∀ i, i < 32 → a[i]? = some (.bool (s.h i))) (h2 : ∀ i, i < 32 → a[32 + i]? = some (.int .i64 (s.c i : Int))) : a = cellsT s := by
  apply Array.ext_getElem?
  intro i
  by_cases hi : i < 32
  · rw [h1 i hi, cellsT_h s hi]
  · by_cases hj : i < 64
    · obtain ⟨j, rfl⟩ : ∃ j, i = 32 + j := ⟨i - 32, by omega⟩
      rw [h2 j (by omega), cellsT_c s (by omega)]
    · rw [Array.getElem?_eq_none (by omega), Array.getElem?_eq_none (by rw [cellsT_size]; omega)]
theorem set_h (s : T) {i : Nat} (hi : i < 32) (b : Bool) : (cellsT s).setIfInBounds i (.bool b) = cellsT ⟨upd s.h i b, s.c⟩ := by
  refine cells_ext _ (by rw [Array.size_setIfInBounds, cellsT_size]) (fun j hj => ?_) (fun j hj => ?_)
  · rw [Array.getElem?_setIfInBounds]
    by_cases e : i = j
    · subst e
      rw [if_pos rfl, if_pos (by rw [cellsT_size]; omega)]
      show _ = some (Value.bool (upd s.h i b i))
      rw [upd_same]
    · rw [if_neg e, cellsT_h s hj]
      show _ = some (Value.bool (upd s.h i b j))
      rw [upd_other _ _ (fun h => e h.symm)]
  · rw [Array.getElem?_setIfInBounds, if_neg (by omega), cellsT_c s hj]
theorem set_c (s : T) {i : Nat} (hi : i < 32) (n : Nat) : (cellsT s).setIfInBounds (32 + i) (.int .i64 (n : Int)) = cellsT ⟨s.h, upd s.c i n⟩ := by
  refine cells_ext _ (by rw [Array.size_setIfInBounds, cellsT_size]) (fun j hj => ?_) (fun j hj => ?_)
  · rw [Array.getElem?_setIfInBounds, if_neg (by omega), cellsT_h s hj]
  · rw [Array.getElem?_setIfInBounds]
    by_cases e : i = j
    · subst e
      rw [if_pos rfl, if_pos (by rw [cellsT_size]; omega)]
      show _ = some (Value.int .i64 ((upd s.c i n i : Nat) : Int))
      rw [upd_same]
    · rw [if_neg (by omega), cellsT_c s hj]
      show _ = some (Value.int .i64 ((upd s.c i n j : Nat) : Int))
      rw [upd_other _ _ (fun h => e h.symm)]

/-- A table in memory. -/
def Tb (w : World) (k : Nat) (s : T) : Prop := Blk w k 115 (cellsT s)
section
variable {w w' : World} {k : Nat} {s : T}
theorem Tb.lt (h : Tb w k s) : k < w.heap.size := Blk.lt h
theorem Tb.same (h : Tb w k s) (e : w'.heap[k]? = w.heap[k]?) : Tb w' k s := Blk.same h e
theorem Tb.kept {F : Nat → Prop} (h : Tb w k s) (q : Kept F w w') (hf : ¬ F k) : Tb w' k s := Blk.kept h q hf
theorem Tb.below (h : Tb w k s) (hb : Below w.heap.size w w') : Tb w' k s := h.same (hb.block k h.lt)
theorem Tb.alloc (h : Tb w k s) (o : Obj) : Tb (w.alloc o) k s := Blk.alloc h o
theorem Tb.h_ (h : Tb w k s) {i : Nat} (hi : i < 32) : w.cell? ⟨k, i, none⟩ = some (.bool (s.h i)) := (Blk.cell h i).trans (cellsT_h s hi)
theorem Tb.c_ (h : Tb w k s) {i : Nat} (hi : i < 32) : w.cell? ⟨k, 32 + i, none⟩ = some (.int .i64 (s.c i : Int)) := (Blk.cell h (32 + i)).trans (cellsT_c s hi)
theorem Tb.setH (h : Tb w k s) {i : Nat} (hi : i < 32) (b : Bool) : Tb (w.setCell ⟨k, i, none⟩ (.bool b)) k ⟨upd s.h i b, s.c⟩ := by
  have := Blk.set_ h i (.bool b)
  rw [set_h s hi] at this
  exact this
theorem Tb.setC (h : Tb w k s) {i : Nat} (hi : i < 32) (n : Nat) : Tb (w.setCell ⟨k, 32 + i, none⟩ (.int .i64 (n : Int))) k ⟨s.h, upd s.c i n⟩ := by
  have := Blk.set_ h (32 + i) (.int .i64 (n : Int))
  rw [set_c s hi] at this
  exact this
end

theorem cells_new : #[Value.bool false, .bool false, .bool false, .bool false, .bool false, .bool false, .bool false, .bool false, .bool false, .bool false, .bool false, .bool false, .bool false, .bool false, .bool false, .bool false, .bool false, .bool false, .bool false, .bool false, .bool false, .bool false, .bool false, .bool false, .bool false, .bool false, .bool false, .bool false, .bool false, .bool false, .bool false, .bool false, .int .i64 0, .int .i64 0, .int .i64 0, .int .i64 0, .int .i64 0, .int .i64 0, .int .i64 0, .int .i64 0, .int .i64 0, .int .i64 0, .int .i64 0, .int .i64 0, .int .i64 0, .int .i64 0, .int .i64 0, .int .i64 0, .int .i64 0, .int .i64 0, .int .i64 0, .int .i64 0, .int .i64 0, .int .i64 0, .int .i64 0, .int .i64 0, .int .i64 0, .int .i64 0, .int .i64 0, .int .i64 0, .int .i64 0, .int .i64 0, .int .i64 0, .int .i64 0] = cellsT T.new := rfl
theorem Tb.fresh (w : World) : Tb (w.alloc (.cells (cellsT T.new) 115)) w.heap.size T.new := Blk.new w _ _
theorem Kept.one {w w' : World} {k i : Nat} (h : Kept (fun j => j = k) w w') (u : Value) : Kept (fun j => j = k) w (w'.setCell ⟨k, i, none⟩ u) := h.setCell (p := ⟨k, i, none⟩) rfl u
theorem new_any (w : World) : Calls Tryz.prog 24 #[] w fun x w' => x = .returned (.pointer (some ⟨w.heap.size, 0, none⟩)) ∧ Tb w' w.heap.size T.new ∧ Kept (fun _ => False) w w' := by
  go_enter Tryz.func24, Tryz.ntmps24
  go_wp2_with fail
  go_ret
  exact ⟨rfl, Tb.fresh w, (Kept.refl _ w).alloc _⟩

theorem check_yes {i : Nat} (h1 : 1 ≤ i) (h2 : i ≤ 31) (k : Nat) (w : World) : Calls Tryz.prog 101 #[.pointer (some ⟨k, 0, none⟩), .int .i64 (i : Int)] w fun x w' => x = .returned (.int .i64 0) ∧ w = w' := by
  go_enter Tryz.func101, Tryz.ntmps101
  go_wp2_with fail
  go_ret
  exact ⟨rfl, rfl⟩
theorem check_no {n : Int} (h : isSig n = false) (k : Nat) (w : World) : Calls Tryz.prog 101 #[.pointer (some ⟨k, 0, none⟩), .int .i64 n] w fun x w' => x = .returned (.int .i64 100) ∧ w = w' := by
  rcases isSig_no.1 h with h1 | h1
  · clear h
    go_enter Tryz.func101, Tryz.ntmps101
    go_wp2_with fail
    go_ret
    exact ⟨rfl, rfl⟩
  · have h2 : 1 ≤ n := by omega
    clear h
    go_enter Tryz.func101, Tryz.ntmps101
    go_wp2_with fail
    go_ret
    exact ⟨rfl, rfl⟩
theorem check_nil (n : Int) (w : World) : Calls Tryz.prog 101 #[.pointer none, .int .i64 n] w fun x w' => x = .returned (.int .i64 1) ∧ w = w' := by
  go_enter Tryz.func101, Tryz.ntmps101
  go_wp2_with fail
  go_ret
  exact ⟨rfl, rfl⟩

section
variable {w : World} {k : Nat} {s : T}
set_option maxRecDepth 100000 in
theorem raise_yes (H : Tb w k s) {i : Nat} (h1 : 1 ≤ i) (h2 : i ≤ 31) (hc : s.c i < 2147483647) :
    Calls Tryz.prog 69 #[.pointer (some ⟨k, 0, none⟩), .int .i64 (i : Int)] w fun x w' => x = .returned (.int .i64 0) ∧ Tb w' k (s.raise i) ∧ Kept (fun j => j = k) w w' := by
  have c0 := H.h_ (i := i) (by omega)
  have c1 := H.c_ (i := i) (by omega)
  have f1 := Blk.frozen H (32 + i)
  have lk := H.lt
  have HC := Lib.hid (check_yes h1 h2 k w)
  have HH := Lib.hid H
  clear H
  cases hh : s.h i with
  | false =>
    have HE := Lib.hid (show s.raise i = s by unfold T.raise; rw [hh]; rfl)
    rw [hh] at c0
    clear hh
    go_enter Tryz.func69, Tryz.ntmps69
    go_wp2_with fail
    refine HC.out.mono ?_
    rintro e w1 ⟨rfl, rfl⟩
    go_wp2_with fail
    go_ret
    rw [HE.out]
    exact ⟨rfl, HH.out, Kept.refl _ _⟩
  | true =>
    have HE := Lib.hid (show s.raise i = ⟨s.h, upd s.c i (s.c i + 1)⟩ by unfold T.raise; rw [hh]; rfl)
    rw [hh] at c0
    clear hh
    have hlt : (s.c i : Int) < 2147483647 := by omega
    have b0 : (0 : Int) ≤ (i : Int) := by omega
    have b1 : (i : Int) < 32 := by omega
    have hw : IntKind.i64.wrap ((s.c i : Int) + 1) = (s.c i : Int) + 1 := by rw [IntKind.wrap_i64]; omega
    go_enter Tryz.func69, Tryz.ntmps69
    go_wp2_with fail
    refine HC.out.mono ?_
    rintro e w1 ⟨rfl, rfl⟩
    go_wp2_with fail
    go_still_tail 10, (by kernel_rfl)
    change wpList _ _ _ _ _ w.drew
    go_wp2_with fail
    go_ret
    rw [HE.out]
    refine ⟨rfl, ?_, (Kept.refl _ w).drew.one _⟩
    have h6 : Tb w.drew k s := HH.out.same rfl
    exact h6.setC (i := i) (by omega) (s.c i + 1)
theorem raise_any (H : Tb w k s) (n : Int) (hc : s.le 2147483646) :
    Calls Tryz.prog 69 #[.pointer (some ⟨k, 0, none⟩), .int .i64 n] w fun x w' => x = .returned (.int .i64 (code n)) ∧ Tb w' k (s.rise n) ∧ Kept (fun j => j = k) w w' := by
  cases h : isSig n with
  | true =>
    obtain ⟨i, rfl, h1, h2⟩ := isSig_nat h
    have e1 : code (i : Int) = 0 := by unfold code; rw [h]; rfl
    have e2 : s.rise (i : Int) = s.raise i := by unfold T.rise; rw [h]; rfl
    rw [e1, e2]
    exact raise_yes H h1 h2 (by have := hc i; omega)
  | false =>
    have e1 : code n = 100 := by unfold code; rw [h]; rfl
    have e2 : s.rise n = s := by unfold T.rise; rw [h]; rfl
    rw [e1, e2]
    have HC := Lib.hid (check_no h k w)
    have HH := Lib.hid H
    clear H e1 e2 h hc
    go_enter Tryz.func69, Tryz.ntmps69
    go_wp2_with fail
    refine HC.out.mono ?_
    rintro e w1 ⟨rfl, rfl⟩
    go_wp2_with fail
    go_ret
    exact ⟨rfl, HH.out, Kept.refl _ _⟩
theorem raise_nil (n : Int) (w : World) :
    Calls Tryz.prog 69 #[.pointer none, .int .i64 n] w fun x w' => x = .returned (.int .i64 1) ∧ w = w' := by
  have HC := Lib.hid (check_nil n w)
  go_enter Tryz.func69, Tryz.ntmps69
  go_wp2_with fail
  refine HC.out.mono ?_
  rintro e w1 ⟨rfl, rfl⟩
  go_wp2_with fail
  go_ret
  exact ⟨rfl, rfl⟩

theorem count_any (H : Tb w k s) (n : Int) :
    Calls Tryz.prog 56 #[.pointer (some ⟨k, 0, none⟩), .int .i64 n] w fun x w' => x = .returned (.int .i64 (s.count n)) ∧ w = w' := by
  cases h : isSig n with
  | true =>
    obtain ⟨i, rfl, h1, h2⟩ := isSig_nat h
    have e1 : s.count (i : Int) = (s.c i : Int) := by unfold T.count; rw [h]; rfl
    rw [e1]
    have c0 := H.c_ (i := i) (by omega)
    have lk := H.lt
    have HC := Lib.hid (check_yes h1 h2 k w)
    clear H h e1
    go_enter Tryz.func56, Tryz.ntmps56
    go_wp2_with fail
    refine HC.out.mono ?_
    rintro e w1 ⟨rfl, rfl⟩
    go_wp2_with fail
    go_ret
    exact ⟨rfl, rfl⟩
  | false =>
    have e1 : s.count n = 0 := by unfold T.count; rw [h]; rfl
    rw [e1]
    have HC := Lib.hid (check_no h k w)
    clear H h e1
    go_enter Tryz.func56, Tryz.ntmps56
    go_wp2_with fail
    refine HC.out.mono ?_
    rintro e w1 ⟨rfl, rfl⟩
    go_wp2_with fail
    go_ret
    exact ⟨rfl, rfl⟩
end
end Go.Proofs.YtlephnfepofbbaaGreatDoor

/-
  Rows of numbers of the call's own, of any program: append of one.
-/
namespace Go.Proofs.YtlephnfepofbbaaGreatDoor
open Go.RowKit

theorem RowK.new_shows {P : Program} {α : Type} {R : RowK P α} (w : World) (x : α) (t : TypeId) : R.shows (w.alloc (.cells (R.enc x).toArray t)) (some ⟨w.heap.size, 0, none⟩) [x] := fun _ => ⟨w.heap.size, 0, rfl, by simp, RowK.lies_new w x t⟩
theorem RowK.own_alloc {P : Program} {α : Type} {R : RowK P α} {w : World} {B : Nat} {v : Value} {xs : List α} (h : R.own w B v xs) (o : Obj) : R.own (w.alloc o) B v xs := RowK.own_same h fun i e => Below.heap_alloc w o i (RowK.own_lt h e).1
/-- What stands apart from a row keeps when one more is appended to it. -/
theorem RowK.grown_far {w w1 : World} {o : Obj} {r : Option Nat} (hg : (w.alloc o).grownBy w1 r) {k : Nat} (hk : k < w.heap.size) (hn : r ≠ some k) : w1.heap[k]? = w.heap[k]? :=
  (hg.block k (by simp; omega) (fun e => hn e.symm)).trans (Below.heap_alloc w o k hk)
/-- Where a row stands behind an append. -/
theorem RowK.own_off {w : World} {o : Obj} {u v : Value} (ho : u.ownBlock = v.ownBlock ∨ u.ownBlock = some (w.alloc o).heap.size) {k : Nat} (hk : k < w.heap.size) (hn : v.ownBlock ≠ some k) : u.ownBlock ≠ some k := fun e => by
  rcases ho with h | h
  · exact hn (h ▸ e)
  · rw [h] at e
    simp at e
    omega
end Go.Proofs.YtlephnfepofbbaaGreatDoor

/-
  A world as plain data: wires with two ends, descriptors, signals, the notice; what the ends' calls do to it.
-/
namespace Go.Proofs.YtlephnfepofbbaaGreatDoor

/-- An end: what it is (0 nobody's, 1 inside, 2 outside, 3 closed), whether it is shut, can read; its ring's bytes, and how many ever came in; how often its sides rose. -/
structure En where
  is : Nat
  shut : Bool
  can : Bool
  bs : List Int
  inn : Nat
  rd : Nat
  wr : Nat
/-- A wire: its ends (the first one is that of false), the capacity of its rings, whether it is reset, its backlog, which wires wait. -/
structure Wi where
  e : Bool → En
  cap : Nat
  reset : Bool
  back : Nat
  wait : List Nat
/-- A world: ticks, wires, what descriptors name, signals, the notice. -/
structure Ws where
  now : Nat
  ws : List Wi
  fds : Nat → Option (Nat × Bool)
  sg : T
  nt : Option (Nat × Bool)

def Wi.set (x : Wi) (k : Bool) (p : En) : Wi := { x with e := fun j => if j = k then p else x.e j }
theorem Wi.set_e (x : Wi) (k j : Bool) (p : En) : (x.set k p).e j = if j = k then p else x.e j := rfl
theorem Wi.set_same (x : Wi) (k : Bool) (p : En) : (x.set k p).e k = p := if_pos rfl
theorem Wi.set_other (x : Wi) (k : Bool) (p : En) : (x.set k p).e (!k) = x.e (!k) := if_neg (by cases k <;> decide)
theorem Wi.set_id (x : Wi) (k : Bool) : x.set k (x.e k) = x := by
  unfold Wi.set
  have : (fun j => if j = k then x.e k else x.e j) = x.e := by funext j; split <;> simp_all
  rw [this]
def Wi.rdRise (x : Wi) (k : Bool) : Wi := if (x.e k).can then x.set k { x.e k with rd := (x.e k).rd + 1 } else x
def Wi.wrRise (x : Wi) (k : Bool) : Wi := if (x.e (!k)).can then x.set k { x.e k with wr := (x.e k).wr + 1 } else x
/-- How many of so many bytes there is room for. -/
def Wi.room (x : Wi) (k : Bool) (n : Nat) : Nat := min n (x.cap - (x.e k).bs.length)
def Wi.put (x : Wi) (k : Bool) (zs : List Int) : Wi := x.set k { x.e k with bs := (x.e k).bs ++ zs.take (x.room k zs.length), inn := (x.e k).inn + x.room k zs.length }
def Wi.fill (x : Wi) (k : Bool) (zs : List Int) : Wi := if 0 < x.room k zs.length then (x.put k zs).rdRise k else x.put k zs
def Wi.cut (x : Wi) (k : Bool) (n : Nat) : Wi := x.set k { x.e k with bs := (x.e k).bs.drop n }
def Wi.drain (x : Wi) (k : Bool) (n : Nat) : Wi := if 0 < ((x.e k).bs.take n).length then (x.cut k n).wrRise (!k) else x.cut k n
def Wi.stop (x : Wi) (k : Bool) : Wi := if (x.e k).shut then x else (x.set k { x.e k with shut := true }).rdRise (!k)
def Wi.mark (x : Wi) (k : Bool) (n : Nat) : Wi := x.set k { x.e k with is := n }
def Wi.close (x : Wi) (k : Bool) : Wi := if (x.e k).shut then (x.mark k 3).wrRise (!k) else ((x.mark k 3).rdRise (!k)).wrRise (!k)
def Wi.noWriter (x : Wi) (k : Bool) : Bool := decide ((x.e (!k)).is = 3) || (x.e (!k)).shut
def Wi.noReader (x : Wi) (k : Bool) : Bool := decide ((x.e (!k)).is = 3)
/-- What is ready of an end. -/
structure Rdy where
  isOpen : Bool
  rin : Bool
  out : Bool
  hup : Bool
  err : Bool
  rd : Nat
  wr : Nat
def Wi.rin (x : Wi) (k : Bool) : Bool := decide (0 < x.wait.length) || (x.e k).can && (decide (0 < (x.e k).bs.length) || x.noWriter k || x.reset)
def Wi.out (x : Wi) (k : Bool) : Bool := (x.e (!k)).can && !(x.e k).shut && (decide (0 < x.cap - (x.e (!k)).bs.length) || x.noReader k || x.reset)
def Wi.ready (x : Wi) (k : Bool) : Rdy := ⟨true, x.rin k, x.out k, x.noReader k, x.reset, (x.e k).rd, (x.e k).wr⟩

/-- A new end of a wire, and a new wire whose first ends, so many of them, can read. -/
def En.new (is : Nat) (can : Bool) : En := ⟨is, false, can, [], 0, 0, 0⟩
def Wi.new (cap readers : Nat) : Wi := ⟨fun k => En.new 0 (if k then decide (1 < readers) else decide (0 < readers)), cap, false, 0, []⟩

/-- No counter of an end is above N. -/
def En.le (p : En) (N : Nat) : Prop := p.inn ≤ N ∧ p.rd ≤ N ∧ p.wr ≤ N
def Wi.le (x : Wi) (N : Nat) : Prop := ∀ k, (x.e k).le N
def Ws.le (s : Ws) (N : Nat) : Prop := ∀ (i : Nat) (x : Wi), s.ws[i]? = some x → x.le N
section
variable {p : En} {x : Wi} {s : Ws} {N M : Nat} {k : Bool}
theorem En.le.mono (h : p.le N) (hN : N ≤ M) : p.le M := ⟨Nat.le_trans h.1 hN, Nat.le_trans h.2.1 hN, Nat.le_trans h.2.2 hN⟩
theorem Wi.le.mono (h : x.le N) (hN : N ≤ M) : x.le M := fun k => (h k).mono hN
theorem Ws.le.mono (h : s.le N) (hN : N ≤ M) : s.le M := fun i x hx => (h i x hx).mono hN
theorem Wi.le_set (h : x.le N) (hp : p.le N) : (x.set k p).le N := fun j => by
  rw [Wi.set_e]
  split
  · exact hp
  · exact h j
theorem Wi.le_rdRise (h : x.le N) (k : Bool) : (x.rdRise k).le (N + 1) := by
  unfold Wi.rdRise
  split
  · exact Wi.le_set (h.mono (Nat.le_succ _)) ⟨by have := (h k).1; show (x.e k).inn ≤ _; omega, by have := (h k).2.1; show (x.e k).rd + 1 ≤ _; omega, by have := (h k).2.2; show (x.e k).wr ≤ _; omega⟩
  · exact h.mono (Nat.le_succ _)
theorem Wi.le_wrRise (h : x.le N) (k : Bool) : (x.wrRise k).le (N + 1) := by
  unfold Wi.wrRise
  split
  · exact Wi.le_set (h.mono (Nat.le_succ _)) ⟨by have := (h k).1; show (x.e k).inn ≤ _; omega, by have := (h k).2.1; show (x.e k).rd ≤ _; omega, by have := (h k).2.2; show (x.e k).wr + 1 ≤ _; omega⟩
  · exact h.mono (Nat.le_succ _)
theorem Wi.le_put (h : x.le N) (k : Bool) (zs : List Int) : (x.put k zs).le (N + x.room k zs.length) :=
  Wi.le_set (h.mono (Nat.le_add_right _ _)) ⟨by have := (h k).1; show (x.e k).inn + _ ≤ _; omega, by have := (h k).2.1; show (x.e k).rd ≤ _; omega, by have := (h k).2.2; show (x.e k).wr ≤ _; omega⟩
theorem Wi.le_fill (h : x.le N) (k : Bool) (zs : List Int) : (x.fill k zs).le (N + zs.length + 1) := by
  have hr : x.room k zs.length ≤ zs.length := Nat.min_le_left _ _
  unfold Wi.fill
  split
  · exact (Wi.le_rdRise (Wi.le_put h k zs) k).mono (by omega)
  · exact (Wi.le_put h k zs).mono (by omega)
theorem Wi.le_cut (h : x.le N) (k : Bool) (n : Nat) : (x.cut k n).le N := Wi.le_set h (h k)
theorem Wi.le_drain (h : x.le N) (k : Bool) (n : Nat) : (x.drain k n).le (N + 1) := by
  unfold Wi.drain
  split
  · exact Wi.le_wrRise (Wi.le_cut h k n) _
  · exact (Wi.le_cut h k n).mono (Nat.le_succ _)
theorem Wi.le_stop (h : x.le N) (k : Bool) : (x.stop k).le (N + 1) := by
  unfold Wi.stop
  split
  · exact h.mono (Nat.le_succ _)
  · exact Wi.le_rdRise (Wi.le_set h (show ({ x.e k with shut := true } : En).le N from h k)) _
theorem Wi.le_mark (h : x.le N) (k : Bool) (n : Nat) : (x.mark k n).le N := Wi.le_set h (h k)
theorem Wi.le_close (h : x.le N) (k : Bool) : (x.close k).le (N + 2) := by
  unfold Wi.close
  split
  · exact (Wi.le_wrRise (Wi.le_mark h k 3) _).mono (by omega)
  · exact Wi.le_wrRise (Wi.le_rdRise (Wi.le_mark h k 3) _) _
theorem Wi.le_new (cap r N : Nat) : (Wi.new cap r).le N := fun _ => ⟨Nat.zero_le _, Nat.zero_le _, Nat.zero_le _⟩
end

/-- A wire turned. -/
def Ws.setW (s : Ws) (i : Nat) (x : Wi) : Ws := { s with ws := s.ws.set i x }
theorem Ws.setW_get {s : Ws} {i j : Nat} {x y : Wi} (h : (s.setW i x).ws[j]? = some y) : (i = j ∧ y = x) ∨ (i ≠ j ∧ s.ws[j]? = some y) := by
  unfold Ws.setW at h
  simp only [List.getElem?_set] at h
  split at h
  · split at h
    · cases h; exact .inl ⟨by assumption, rfl⟩
    · cases h
  · exact .inr ⟨by assumption, h⟩
theorem Ws.le_setW {s : Ws} {i : Nat} {x : Wi} {N : Nat} (h : s.le N) (hx : x.le N) : (s.setW i x).le N := fun j y hy => by
  rcases Ws.setW_get hy with ⟨_, rfl⟩ | ⟨_, hy⟩
  · exact hx
  · exact h j y hy
end Go.Proofs.YtlephnfepofbbaaGreatDoor

/-
  A world in memory: the blocks of its wires, with their ends; the ends' calls that only look.
-/
namespace Go.Proofs.YtlephnfepofbbaaGreatDoor
open Go.RowKit Go.Maps Go.ChangeMaps

/-- The pointer to a ring, if there is one. -/
def rp (c : Bool) (r : Nat) : Value := if c then .pointer (some ⟨r, 0, none⟩) else .pointer none
theorem rp_yes (r : Nat) : rp true r = .pointer (some ⟨r, 0, none⟩) := rfl
theorem rp_no (r : Nat) : rp false r = .pointer none := rfl
theorem rp_one (c : Bool) (r : Nat) : (rp c r).oneCell' = true := by cases c <;> rfl
/-- Where an end begins. -/
def off (k : Bool) : Nat := if k then 8 else 1
theorem off_f : off false = 1 := rfl
theorem off_t : off true = 8 := rfl
def num (k : Bool) : Int := if k then 1 else 0
/-- The cells of a wire that is numbered n: its block is g, its rings are r's, v names what waits. -/
def cellsW (g n : Nat) (r : Bool → Nat) (v : Value) (x : Wi) : Array Value := #[.int .i64 (n : Int),
  .pointer (some ⟨g, 0, none⟩), .int .i64 0, .int .i64 ((x.e false).is : Int), .bool (x.e false).shut, rp (x.e false).can (r false), .int .u64 ((x.e false).rd : Int), .int .u64 ((x.e false).wr : Int),
  .pointer (some ⟨g, 0, none⟩), .int .i64 1, .int .i64 ((x.e true).is : Int), .bool (x.e true).shut, rp (x.e true).can (r true), .int .u64 ((x.e true).rd : Int), .int .u64 ((x.e true).wr : Int),
  .bool x.reset, .int .i64 (x.back : Int), v]
def Wb (W : World) (g n : Nat) (r : Bool → Nat) (v : Value) (x : Wi) : Prop := Blk W g 104 (cellsW g n r v x)
section
variable {w w' : World} {g n : Nat} {r : Bool → Nat} {v : Value} {x : Wi}
theorem Wb.lt (h : Wb w g n r v x) : g < w.heap.size := Blk.lt h
theorem Wb.same (h : Wb w g n r v x) (e : w'.heap[g]? = w.heap[g]?) : Wb w' g n r v x := Blk.same h e
theorem Wb.kept {F : Nat → Prop} (h : Wb w g n r v x) (q : Kept F w w') (hf : ¬ F g) : Wb w' g n r v x := Blk.kept h q hf
theorem Wb.drewN (h : Wb w g n r v x) (q : Nat) : Wb (w.drewN q) g n r v x := h
theorem Wb.frozen (h : Wb w g n r v x) (i : Nat) : w.frozen? ⟨g, i, none⟩ = false := Blk.frozen h i
theorem Wb.c0 (h : Wb w g n r v x) (k : Bool) : w.cell? ⟨g, off k, none⟩ = some (.pointer (some ⟨g, 0, none⟩)) := by rw [Blk.cell h]; cases k <;> rfl
theorem Wb.c1 (h : Wb w g n r v x) (k : Bool) : w.cell? ⟨g, off k + 1, none⟩ = some (.int .i64 (num k)) := by rw [Blk.cell h]; cases k <;> rfl
theorem Wb.c2 (h : Wb w g n r v x) (k : Bool) : w.cell? ⟨g, off k + 2, none⟩ = some (.int .i64 ((x.e k).is : Int)) := by rw [Blk.cell h]; cases k <;> rfl
theorem Wb.c3 (h : Wb w g n r v x) (k : Bool) : w.cell? ⟨g, off k + 3, none⟩ = some (.bool (x.e k).shut) := by rw [Blk.cell h]; cases k <;> rfl
theorem Wb.c4 (h : Wb w g n r v x) (k : Bool) : w.cell? ⟨g, off k + 4, none⟩ = some (rp (x.e k).can (r k)) := by rw [Blk.cell h]; cases k <;> rfl
theorem Wb.c5 (h : Wb w g n r v x) (k : Bool) : w.cell? ⟨g, off k + 5, none⟩ = some (.int .u64 ((x.e k).rd : Int)) := by rw [Blk.cell h]; cases k <;> rfl
theorem Wb.c6 (h : Wb w g n r v x) (k : Bool) : w.cell? ⟨g, off k + 6, none⟩ = some (.int .u64 ((x.e k).wr : Int)) := by rw [Blk.cell h]; cases k <;> rfl
theorem Wb.w0 (h : Wb w g n r v x) : w.cell? ⟨g, 0, none⟩ = some (.int .i64 (n : Int)) := by rw [Blk.cell h]; rfl
theorem Wb.w15 (h : Wb w g n r v x) : w.cell? ⟨g, 15, none⟩ = some (.bool x.reset) := by rw [Blk.cell h]; rfl
theorem Wb.w16 (h : Wb w g n r v x) : w.cell? ⟨g, 16, none⟩ = some (.int .i64 (x.back : Int)) := by rw [Blk.cell h]; rfl
theorem Wb.w17 (h : Wb w g n r v x) : w.cell? ⟨g, 17, none⟩ = some v := by rw [Blk.cell h]; rfl
theorem Wb.set2 (h : Wb w g n r v x) (k : Bool) (m : Nat) : Wb (w.setCell ⟨g, off k + 2, none⟩ (.int .i64 (m : Int))) g n r v (x.mark k m) := by
  have := Blk.set_ h (off k + 2) (.int .i64 (m : Int)); cases k <;> exact this
theorem Wb.set3 (h : Wb w g n r v x) (k b : Bool) : Wb (w.setCell ⟨g, off k + 3, none⟩ (.bool b)) g n r v (x.set k { x.e k with shut := b }) := by
  have := Blk.set_ h (off k + 3) (.bool b); cases k <;> exact this
theorem Wb.set5 (h : Wb w g n r v x) (k : Bool) (m : Nat) : Wb (w.setCell ⟨g, off k + 5, none⟩ (.int .u64 (m : Int))) g n r v (x.set k { x.e k with rd := m }) := by
  have := Blk.set_ h (off k + 5) (.int .u64 (m : Int)); cases k <;> exact this
theorem Wb.set6 (h : Wb w g n r v x) (k : Bool) (m : Nat) : Wb (w.setCell ⟨g, off k + 6, none⟩ (.int .u64 (m : Int))) g n r v (x.set k { x.e k with wr := m }) := by
  have := Blk.set_ h (off k + 6) (.int .u64 (m : Int)); cases k <;> exact this
/-- What of a wire lies in its block alone. -/
theorem Wb.ring_ (h : Wb w g n r v x) (k : Bool) (bs : List Int) (inn : Nat) : Wb w g n r v (x.set k { x.e k with bs := bs, inn := inn }) := by cases k <;> exact h

theorem canRead_any (h : Wb w g n r v x) (k : Bool) : Calls Tryz.prog 126 #[.pointer (some ⟨g, off k, none⟩)] w fun e w' => e = .returned (.bool (x.e k).can) ∧ ∃ m, w' = w.drewN m := by
  have c4 := h.c4 k
  cases hc : (x.e k).can with
  | true =>
    rw [hc, rp_yes] at c4
    clear h hc
    go_enter Tryz.func126, Tryz.ntmps126
    go_wp2
    go_ret
    exact ⟨rfl, 0, rfl⟩
  | false =>
    rw [hc, rp_no] at c4
    clear h hc
    go_enter Tryz.func126, Tryz.ntmps126
    go_wp2
    go_ret
    exact ⟨rfl, 0, rfl⟩
set_option maxHeartbeats 1000000 in
theorem other_any (h : Wb w g n r v x) (k : Bool) : Calls Tryz.prog 60 #[.pointer (some ⟨g, off k, none⟩)] w fun e w' => e = .returned (.pointer (some ⟨g, off (!k), none⟩)) ∧ ∃ m, w' = w.drewN m := by
  have c0 := h.c0 k
  have c1 := h.c1 k
  have lg := h.lt
  clear h
  cases k with
  | false =>
    rw [show num false = 0 from rfl] at c1
    rw [show off (!false) = 8 from rfl]
    rw [off_f] at c0 c1 ⊢
    go_enter Tryz.func60, Tryz.ntmps60
    go_wp2_with fail
    go_quiet (fail)
    go_wp2
    go_ret
    exact ⟨rfl, _, rfl⟩
  | true =>
    rw [show num true = 1 from rfl] at c1
    rw [show off (!true) = 1 from rfl]
    rw [off_t] at c0 c1 ⊢
    go_enter Tryz.func60, Tryz.ntmps60
    go_wp2_with fail
    go_quiet (fail)
    go_wp2
    go_ret
    exact ⟨rfl, _, rfl⟩
end
end Go.Proofs.YtlephnfepofbbaaGreatDoor

/-
  The calls of an end that look, and those that turn its wire's block alone.
-/
namespace Go.Proofs.YtlephnfepofbbaaGreatDoor
open Go.RowKit Go.Maps Go.ChangeMaps

section
variable {w w' : World} {g n : Nat} {r : Bool → Nat} {v : Value} {x : Wi} {k : Bool}
theorem canWrite_any (h : Wb w g n r v x) (k : Bool) : Calls Tryz.prog 132 #[.pointer (some ⟨g, off k, none⟩)] w fun e w' => e = .returned (.bool (x.e (!k)).can) ∧ ∃ m, w' = w.drewN m := by
  have H1 := Lib.hid (other_any h k)
  have H2 := Lib.hid (fun q => canRead_any (h.drewN q) (!k))
  clear h
  go_enter Tryz.func132, Tryz.ntmps132
  go_wp2_with fail
  refine H1.out.mono ?_
  rintro e w1 ⟨rfl, m, rfl⟩
  go_wp2_with fail
  refine (H2.out m).mono ?_
  rintro e w2 ⟨rfl, m', rfl⟩
  go_wp2_with fail
  go_ret
  exact ⟨rfl, m + m', by simp⟩
theorem noReader_any (h : Wb w g n r v x) (k : Bool) : Calls Tryz.prog 59 #[.pointer (some ⟨g, off k, none⟩)] w fun e w' => e = .returned (.bool (x.noReader k)) ∧ ∃ m, w' = w.drewN m := by
  have H1 := Lib.hid (other_any h k)
  have c2 := h.c2 (!k)
  clear h
  go_enter Tryz.func59, Tryz.ntmps59
  go_wp2_with fail
  refine H1.out.mono ?_
  rintro e w1 ⟨rfl, m, rfl⟩
  go_wp2_with fail
  go_ret
  exact ⟨ret_bool (by unfold Wi.noReader; exact decide_eq_decide.2 (by omega)), m, rfl⟩
theorem rdRise_yes (hc : (x.e k).can = true) : x.rdRise k = x.set k { x.e k with rd := (x.e k).rd + 1 } := if_pos hc
theorem rdRise_no (hc : (x.e k).can = false) : x.rdRise k = x := if_neg (by simp [hc])
theorem wrRise_yes (hc : (x.e (!k)).can = true) : x.wrRise k = x.set k { x.e k with wr := (x.e k).wr + 1 } := if_pos hc
theorem wrRise_no (hc : (x.e (!k)).can = false) : x.wrRise k = x := if_neg (by simp [hc])

theorem readsRise_any (h : Wb w g n r v x) (k : Bool) (hN : x.le 1000000000) : Calls Tryz.prog 103 #[.pointer (some ⟨g, off k, none⟩)] w fun e w' =>
    e = .returned (.tuple #[]) ∧ Wb w' g n r v (x.rdRise k) ∧ Kept (fun j => j = g) w w' := by
  have H1 := Lib.hid (canRead_any h k)
  have hb := (hN k).2.1
  cases hc : (x.e k).can with
  | true =>
    rw [hc] at H1
    rw [rdRise_yes hc]
    have HE := Lib.hid (fun m => And.intro ((h.drewN m).set5 k ((x.e k).rd + 1)) (((Kept.refl (fun j => j = g) w).drewN m).setCell (p := ⟨g, off k + 5, none⟩) rfl (.int .u64 (((x.e k).rd + 1 : Nat) : Int))))
    have c5 := h.c5 k
    have f5 := h.frozen (off k + 5)
    have e1 : IntKind.u64.wrap (((x.e k).rd : Int) + 1) = (((x.e k).rd + 1 : Nat) : Int) := by rw [IntWalk.u64_in _ (by omega)]; omega
    have b1 : (0 : Int) ≤ ((x.e k).rd : Int) := by omega
    have b2 : ((x.e k).rd : Int) ≤ 1000000000 := by omega
    obtain ⟨z, hz⟩ : ∃ z, z = (((x.e k).rd + 1 : Nat) : Int) := ⟨_, rfl⟩
    rw [← hz] at HE e1
    clear h hc hN hb hz
    go_enter Tryz.func103, Tryz.ntmps103
    go_wp2_with fail
    refine H1.out.mono ?_
    rintro e w1 ⟨rfl, m, rfl⟩
    go_wp2_with fail
    go_end0
    exact ⟨rfl, HE.out m⟩
  | false =>
    rw [hc] at H1
    rw [rdRise_no hc]
    have HE := Lib.hid h
    clear h hc hN hb
    go_enter Tryz.func103, Tryz.ntmps103
    go_wp2_with fail
    refine H1.out.mono ?_
    rintro e w1 ⟨rfl, m, rfl⟩
    go_wp2_with fail
    go_end0
    exact ⟨rfl, HE.out, (Kept.refl _ w).drewN m⟩
theorem writesRise_any (h : Wb w g n r v x) (k : Bool) (hN : x.le 1000000000) : Calls Tryz.prog 105 #[.pointer (some ⟨g, off k, none⟩)] w fun e w' =>
    e = .returned (.tuple #[]) ∧ Wb w' g n r v (x.wrRise k) ∧ Kept (fun j => j = g) w w' := by
  have H1 := Lib.hid (canWrite_any h k)
  have hb := (hN k).2.2
  cases hc : (x.e (!k)).can with
  | true =>
    rw [hc] at H1
    rw [wrRise_yes hc]
    have HE := Lib.hid (fun m => And.intro ((h.drewN m).set6 k ((x.e k).wr + 1)) (((Kept.refl (fun j => j = g) w).drewN m).setCell (p := ⟨g, off k + 6, none⟩) rfl (.int .u64 (((x.e k).wr + 1 : Nat) : Int))))
    have c5 := h.c6 k
    have f5 := h.frozen (off k + 6)
    have e1 : IntKind.u64.wrap (((x.e k).wr : Int) + 1) = (((x.e k).wr + 1 : Nat) : Int) := by rw [IntWalk.u64_in _ (by omega)]; omega
    have b1 : (0 : Int) ≤ ((x.e k).wr : Int) := by omega
    have b2 : ((x.e k).wr : Int) ≤ 1000000000 := by omega
    obtain ⟨z, hz⟩ : ∃ z, z = (((x.e k).wr + 1 : Nat) : Int) := ⟨_, rfl⟩
    rw [← hz] at HE e1
    clear h hc hN hb hz
    go_enter Tryz.func105, Tryz.ntmps105
    go_wp2_with fail
    refine H1.out.mono ?_
    rintro e w1 ⟨rfl, m, rfl⟩
    go_wp2_with fail
    go_end0
    exact ⟨rfl, HE.out m⟩
  | false =>
    rw [hc] at H1
    rw [wrRise_no hc]
    have HE := Lib.hid h
    clear h hc hN hb
    go_enter Tryz.func105, Tryz.ntmps105
    go_wp2_with fail
    refine H1.out.mono ?_
    rintro e w1 ⟨rfl, m, rfl⟩
    go_wp2_with fail
    go_end0
    exact ⟨rfl, HE.out, (Kept.refl _ w).drewN m⟩
theorem stop_any (h : Wb w g n r v x) (k : Bool) (hN : x.le 1000000000) : Calls Tryz.prog 63 #[.pointer (some ⟨g, off k, none⟩)] w fun e w' =>
    e = .returned (.tuple #[]) ∧ Wb w' g n r v (x.stop k) ∧ Kept (fun j => j = g) w w' := by
  have c3 := h.c3 k
  have f3 := h.frozen (off k + 3)
  cases hs : (x.e k).shut with
  | true =>
    rw [show x.stop k = x from if_pos hs]
    rw [hs] at c3
    have HE := Lib.hid h
    clear h hs hN f3
    go_enter Tryz.func63, Tryz.ntmps63
    go_wp2_with fail
    go_end0
    exact ⟨rfl, HE.out, Kept.refl _ w⟩
  | false =>
    rw [show x.stop k = (x.set k { x.e k with shut := true }).rdRise (!k) from if_neg (by simp [hs])]
    rw [hs] at c3
    have hS := h.set3 k true
    have HO := Lib.hid (other_any hS k)
    have HR := Lib.hid (fun m => readsRise_any (hS.drewN m) (!k) (Wi.le_set hN (show ({ x.e k with shut := true } : En).le _ from hN k)))
    clear h hs hN hS
    go_enter Tryz.func63, Tryz.ntmps63
    go_wp2_with fail
    refine HO.out.mono ?_
    rintro e w1 ⟨rfl, m, rfl⟩
    go_wp2_with fail
    refine (HR.out m).mono ?_
    rintro e w2 ⟨rfl, h2, k2⟩
    have HE := Lib.hid (And.intro h2 ((((Kept.refl (fun j => j = g) w).setCell (p := ⟨g, off k + 3, none⟩) rfl (.bool true)).drewN m).trans k2))
    clear h2 k2
    go_wp2_with fail
    go_end0
    exact ⟨rfl, HE.out⟩
theorem endclose_any (h : Wb w g n r v x) (k : Bool) (hN : x.le 999999999) : Calls Tryz.prog 64 #[.pointer (some ⟨g, off k, none⟩)] w fun e w' =>
    e = .returned (.tuple #[]) ∧ Wb w' g n r v (x.close k) ∧ Kept (fun j => j = g) w w' := by
  have f2 := h.frozen (off k + 2)
  have c2 := h.c2 k
  have hS : Wb (w.setCell ⟨g, off k + 2, none⟩ (.int .i64 3)) g n r v (x.mark k 3) := h.set2 k 3
  have d3 := hS.c3 k
  rw [show ((x.mark k 3).e k).shut = (x.e k).shut from by unfold Wi.mark; rw [Wi.set_same]] at d3
  have HO := Lib.hid (other_any hS k)
  have lm := Wi.le_mark hN k 3
  have K0 := (Kept.refl (fun j => j = g) w).setCell (p := ⟨g, off k + 2, none⟩) rfl (.int .i64 3)
  cases hs : (x.e k).shut with
  | true =>
    rw [show x.close k = (x.mark k 3).wrRise (!k) from if_pos hs]
    rw [hs] at d3
    have HR := Lib.hid (fun m => writesRise_any (hS.drewN m) (!k) (lm.mono (by omega)))
    have HK := Lib.hid K0
    clear h hs hN hS lm K0
    go_enter Tryz.func64, Tryz.ntmps64
    go_wp2_with fail
    refine HO.out.mono ?_
    rintro e w1 ⟨rfl, m, rfl⟩
    go_wp2_with fail
    refine (HR.out m).mono ?_
    rintro e w2 ⟨rfl, h2, k2⟩
    have HE := Lib.hid (And.intro h2 ((HK.out.drewN m).trans k2))
    clear h2 k2
    go_wp2_with fail
    go_end0
    exact ⟨rfl, HE.out⟩
  | false =>
    rw [show x.close k = ((x.mark k 3).rdRise (!k)).wrRise (!k) from if_neg (by simp [hs])]
    rw [hs] at d3
    have HR := Lib.hid (fun m => readsRise_any (hS.drewN m) (!k) (lm.mono (by omega)))
    have lr := Wi.le_rdRise lm (!k)
    have HK := Lib.hid (And.intro K0 lr)
    clear h hs hN hS lm K0 lr
    go_enter Tryz.func64, Tryz.ntmps64
    go_wp2_with fail
    refine HO.out.mono ?_
    rintro e w1 ⟨rfl, m, rfl⟩
    go_wp2_with fail
    refine (HR.out m).mono ?_
    rintro e w2 ⟨rfl, h2, k2⟩
    have HO2 := Lib.hid (other_any h2 k)
    have HR2 := Lib.hid (fun m => writesRise_any (h2.drewN m) (!k) HK.out.2)
    have HK2 := Lib.hid ((HK.out.1.drewN m).trans k2)
    clear h2 k2
    go_wp2_with fail
    refine HO2.out.mono ?_
    rintro e w3 ⟨rfl, m2, rfl⟩
    go_wp2_with fail
    refine (HR2.out m2).mono ?_
    rintro e w4 ⟨rfl, h4, k4⟩
    have HE := Lib.hid (And.intro h4 ((HK2.out.drewN m2).trans k4))
    clear h4 k4
    go_wp2_with fail
    go_end0
    exact ⟨rfl, HE.out⟩
end
end Go.Proofs.YtlephnfepofbbaaGreatDoor

/-
  A wire with its rings; fill and drain.
-/
namespace Go.Proofs.YtlephnfepofbbaaGreatDoor
open Go.RowKit Go.Maps Go.ChangeMaps

/-- What of two wires the rings hold. -/
def Wi.sameR (x y : Wi) : Prop := y.cap = x.cap ∧ ∀ k, (y.e k).can = (x.e k).can ∧ (y.e k).bs = (x.e k).bs ∧ (y.e k).inn = (x.e k).inn
section
variable {x y z : Wi}
theorem Wi.sameR.refl (x : Wi) : x.sameR x := ⟨rfl, fun _ => ⟨rfl, rfl, rfl⟩⟩
theorem Wi.sameR.trans (h : x.sameR y) (k : y.sameR z) : x.sameR z := ⟨k.1.trans h.1, fun j => ⟨(k.2 j).1.trans (h.2 j).1, (k.2 j).2.1.trans (h.2 j).2.1, (k.2 j).2.2.trans (h.2 j).2.2⟩⟩
theorem Wi.sameR_set (x : Wi) (k : Bool) (p : En) (h1 : p.can = (x.e k).can) (h2 : p.bs = (x.e k).bs) (h3 : p.inn = (x.e k).inn) : x.sameR (x.set k p) := ⟨rfl, fun j => by
  rw [Wi.set_e]
  split
  · subst_vars; exact ⟨h1, h2, h3⟩
  · exact ⟨rfl, rfl, rfl⟩⟩
theorem Wi.sameR_rd (x : Wi) (k : Bool) : x.sameR (x.rdRise k) := by
  unfold Wi.rdRise
  split
  · exact Wi.sameR_set x k _ rfl rfl rfl
  · exact Wi.sameR.refl x
theorem Wi.sameR_wr (x : Wi) (k : Bool) : x.sameR (x.wrRise k) := by
  unfold Wi.wrRise
  split
  · exact Wi.sameR_set x k _ rfl rfl rfl
  · exact Wi.sameR.refl x
theorem Wi.sameR_mark (x : Wi) (k : Bool) (n : Nat) : x.sameR (x.mark k n) := Wi.sameR_set x k _ rfl rfl rfl
theorem Wi.sameR_stop (x : Wi) (k : Bool) : x.sameR (x.stop k) := by
  unfold Wi.stop
  split
  · exact Wi.sameR.refl x
  · exact (Wi.sameR_set x k { x.e k with shut := true } rfl rfl rfl).trans (Wi.sameR_rd _ _)
theorem Wi.sameR_close (x : Wi) (k : Bool) : x.sameR (x.close k) := by
  unfold Wi.close
  split
  · exact (Wi.sameR_mark x k 3).trans (Wi.sameR_wr _ _)
  · exact ((Wi.sameR_mark x k 3).trans (Wi.sameR_rd _ _)).trans (Wi.sameR_wr _ _)
end

/-- A wire with its rings: the F's are their blocks. -/
structure Wr (W : World) (B g n : Nat) (r : Bool → Nat) (F : Bool → Nat → Prop) (v : Value) (x : Wi) : Prop where
  blk : Wb W g n r v x
  hB : B ≤ g
  hs : B ≤ W.heap.size
  ring : ∀ k, (x.e k).can = true → ∃ out, Rg W B (r k) (F k) x.cap (x.e k).bs (x.e k).inn out
  nor : ∀ k, (x.e k).can = false → ∀ b, ¬ F k b
  sep : ∀ k b, F k b → ¬ F (!k) b
  own : ∀ k, ¬ F k g
def FW (g : Nat) (F : Bool → Nat → Prop) (b : Nat) : Prop := b = g ∨ ∃ k, F k b
section
variable {w w' w'' : World} {B g n : Nat} {r : Bool → Nat} {F F' : Bool → Nat → Prop} {v : Value} {x y : Wi} {k : Bool}
theorem Wr.lt (h : Wr w B g n r F v x) {b : Nat} (hb : FW g F b) : b < w.heap.size ∧ B ≤ b := by
  rcases hb with rfl | ⟨k, hk⟩
  · exact ⟨h.blk.lt, h.hB⟩
  · cases hc : (x.e k).can with
    | true => obtain ⟨out, hr⟩ := h.ring k hc; exact hr.lt hk
    | false => exact absurd hk (h.nor k hc b)
theorem Wr.same (h : Wr w B g n r F v x) (e : ∀ b, FW g F b → w'.heap[b]? = w.heap[b]?) (hs : B ≤ w'.heap.size) : Wr w' B g n r F v x :=
  ⟨h.blk.same (e g (.inl rfl)), h.hB, hs, fun k hc => by
    obtain ⟨out, hr⟩ := h.ring k hc
    exact ⟨out, hr.same (fun b hb => e b (.inr ⟨k, hb⟩)) hs⟩, h.nor, h.sep, h.own⟩
theorem Wr.kept {G : Nat → Prop} (h : Wr w B g n r F v x) (q : Kept G w w') (hf : ∀ b, FW g F b → ¬ G b) : Wr w' B g n r F v x :=
  h.same (fun b hb => q.block b (h.lt hb).1 (hf b hb)) (Nat.le_trans h.hs q.size)
theorem Wr.drewN_ (h : Wr w B g n r F v x) (q : Nat) : Wr (w.drewN q) B g n r F v x := h.same (fun _ _ => rfl) h.hs
/-- Its block alone turned. -/
theorem Wr.turn (h : Wr w B g n r F v x) (hb : Wb w' g n r v y) (q : Kept (fun j => j = g) w w') (hr : x.sameR y) : Wr w' B g n r F v y :=
  ⟨hb, h.hB, Nat.le_trans h.hs q.size, fun k hc => by
    obtain ⟨h1, h2, h3⟩ := hr.2 k
    obtain ⟨out, hk⟩ := h.ring k (h1 ▸ hc)
    rw [hr.1, h2, h3]
    exact ⟨out, hk.kept q (fun b hb e => h.own k (e ▸ hb))⟩, fun k hc => h.nor k ((hr.2 k).1 ▸ hc), h.sep, h.own⟩
theorem FW.kept (q : Kept (fun j => j = g) w w') : Kept (FW g F) w w' := q.mono fun _ _ e => .inl e
/-- One of its rings turned. -/
theorem Wr.ring1 (h : Wr w B g n r F v x) (hc : (x.e k).can = true) {G : Nat → Prop} {bs : List Int} {inn out : Nat} (hr : Rg w' B (r k) G x.cap bs inn out) (m : Mv w w' (F k) G) :
    ∃ F', Wr w' B g n r F' v (x.set k { x.e k with bs := bs, inn := inn }) ∧ Mv w w' (FW g F) (FW g F') ∧ ∀ b, FW g F' b → FW g F b ∨ G b := by
  have hgF : ∀ b, G b → F k b ∨ w.heap.size ≤ b := m.o
  have hlg := h.blk.lt
  refine ⟨fun j => if j = k then G else F j, ⟨(h.blk.kept m.k (h.own k)).ring_ k bs inn, h.hB, Nat.le_trans h.hs m.k.size, fun j hj => ?_, fun j hj b hb => ?_, fun j b hb hb2 => ?_, fun j hb => ?_⟩, ⟨m.k.mono fun b _ e => .inr ⟨k, e⟩, fun b hb => ?_⟩, fun b hb => ?_⟩
  · by_cases e : j = k
    · subst e
      rw [Wi.set_same]
      simp only [if_true]
      exact ⟨out, hr⟩
    · rw [Wi.set_e, if_neg e] at hj ⊢
      simp only [if_neg e]
      obtain ⟨o2, h2⟩ := h.ring j hj
      refine ⟨o2, h2.kept m.k fun b hb hb2 => ?_⟩
      have : j = !k := by cases j <;> cases k <;> simp_all
      exact h.sep k b hb2 (this ▸ hb)
  · by_cases e : j = k
    · subst e
      rw [Wi.set_same] at hj
      exact absurd (hc.symm.trans hj) (by decide)
    · rw [Wi.set_e, if_neg e] at hj
      simp only [if_neg e] at hb
      exact h.nor j hj b hb
  · by_cases e : j = k
    · subst e
      have e2 : ¬ ((!j) = j) := by cases j <;> decide
      simp only [if_true] at hb
      simp only [if_neg e2] at hb2
      rcases hgF b hb with h1 | h1
      · exact h.sep j b h1 hb2
      · have := (h.lt (.inr ⟨_, hb2⟩)).1; omega
    · have e2 : (!j) = k := by cases j <;> cases k <;> simp_all
      simp only [if_neg e] at hb
      simp only [if_pos e2] at hb2
      rcases hgF b hb2 with h1 | h1
      · exact h.sep j b hb (e2 ▸ h1)
      · have := (h.lt (.inr ⟨_, hb⟩)).1; omega
  · by_cases e : j = k
    · simp only [if_pos e] at hb
      rcases hgF g hb with h1 | h1
      · exact h.own k h1
      · omega
    · simp only [if_neg e] at hb
      exact h.own j hb
  · rcases hb with rfl | ⟨j, hb⟩
    · exact .inl (.inl rfl)
    · by_cases e : j = k
      · simp only [if_pos e] at hb
        rcases hgF b hb with h1 | h1
        · exact .inl (.inr ⟨k, h1⟩)
        · exact .inr h1
      · simp only [if_neg e] at hb
        exact .inl (.inr ⟨j, hb⟩)
  · rcases hb with rfl | ⟨j, hb⟩
    · exact .inl (.inl rfl)
    · by_cases e : j = k
      · simp only [if_pos e] at hb
        exact .inr hb
      · simp only [if_neg e] at hb
        exact .inl (.inr ⟨j, hb⟩)

set_option maxHeartbeats 1000000 in
theorem fill_any (h : Wr w B g n r F v x) (k : Bool) (hc : (x.e k).can = true) (vz : Value) (zs : List Int) (hz : Src w (FW g F) vz zs) (hN : x.le 900000000) :
    Calls Tryz.prog 61 #[.pointer (some ⟨g, off k, none⟩), vz] w fun e w' =>
      e = .returned (.int .i64 (x.room k zs.length : Int)) ∧ ∃ F', Wr w' B g n r F' v (x.fill k zs) ∧ Mv w w' (FW g F) (FW g F') := by
  obtain ⟨out, hr⟩ := h.ring k hc
  have c4 := h.blk.c4 k
  rw [hc, rp_yes] at c4
  have hi := (hN k).1
  have hf := hr.facts
  have hrm : x.room k zs.length ≤ 65536 := by unfold Wi.room; omega
  obtain ⟨A, c, rfl, hc1, hc2, hsrc⟩ := hz
  have hsv : Src w (F k) (.slice A zs.length c) zs := ⟨A, c, rfl, hc1, hc2, fun h0 => by
    obtain ⟨b, o, e1, e2, e3, e4⟩ := hsrc h0
    exact ⟨b, o, e1, e2, fun e => e3 (.inr ⟨k, e⟩), e4⟩⟩
  have HP := Lib.hid (put_any hr _ zs hsv (by have : min zs.length (x.cap - (x.e k).bs.length) = x.room k zs.length := rfl; omega))
  have H := Lib.hid (And.intro h hN)
  have hle := Wi.le_put hN k zs
  by_cases h0 : 0 < x.room k zs.length
  · rw [show x.fill k zs = (x.put k zs).rdRise k from if_pos h0]
    have b0 : (0 : Int) < (x.room k zs.length : Int) := by omega
    have HL := Lib.hid (hle.mono (by omega : 900000000 + x.room k zs.length ≤ 1000000000))
    rw [show min zs.length (x.cap - (x.e k).bs.length) = x.room k zs.length from rfl] at HP
    obtain ⟨m, hm⟩ : ∃ m, m = x.room k zs.length := ⟨_, rfl⟩
    have HM := Lib.hid hm
    rw [← hm] at b0 HP h0 ⊢
    clear h hr hi hf hrm hsrc hsv hle hN hm
    go_enter Tryz.func61, Tryz.ntmps61
    go_wp2_with fail
    refine HP.out.mono ?_
    rintro e w1 ⟨rfl, G, h1, h2⟩
    obtain ⟨F1, h3, h4, _⟩ := H.out.1.ring1 (k := k) hc h1 h2
    rw [show x.set k { x.e k with bs := (x.e k).bs ++ zs.take m, inn := (x.e k).inn + m } = x.put k zs from by unfold Wi.put; rw [HM.out]] at h3
    have HR := Lib.hid (readsRise_any h3.blk k HL.out)
    have H3 := Lib.hid (And.intro h3 h4)
    clear h1 h2 h3 h4
    go_wp2_with fail
    refine HR.out.mono ?_
    rintro e w2 ⟨rfl, h5, h6⟩
    have HE := Lib.hid (And.intro (H3.out.1.turn h5 h6 (Wi.sameR_rd _ k)) (H3.out.2.trans ⟨FW.kept h6, fun b hb => .inl hb⟩))
    clear h5 h6
    go_wp2_with fail
    go_ret
    exact ⟨rfl, F1, HE.out⟩
  · rw [show x.fill k zs = x.put k zs from if_neg h0]
    have b0 : ¬ (0 : Int) < (x.room k zs.length : Int) := by omega
    rw [show min zs.length (x.cap - (x.e k).bs.length) = x.room k zs.length from rfl] at HP
    obtain ⟨m, hm⟩ : ∃ m, m = x.room k zs.length := ⟨_, rfl⟩
    have HM := Lib.hid hm
    rw [← hm] at b0 HP h0 ⊢
    clear h hr hi hf hrm hsrc hsv hle hN hm
    go_enter Tryz.func61, Tryz.ntmps61
    go_wp2_with fail
    refine HP.out.mono ?_
    rintro e w1 ⟨rfl, G, h1, h2⟩
    obtain ⟨F1, h3, h4, _⟩ := H.out.1.ring1 (k := k) hc h1 h2
    rw [show x.set k { x.e k with bs := (x.e k).bs ++ zs.take m, inn := (x.e k).inn + m } = x.put k zs from by unfold Wi.put; rw [HM.out]] at h3
    have H3 := Lib.hid (And.intro h3 h4)
    clear h1 h2 h3 h4
    go_wp2_with fail
    go_ret
    exact ⟨rfl, F1, H3.out⟩

set_option maxHeartbeats 1000000 in
theorem drain_any (h : Wr w B g n r F v x) (k : Bool) (hc : (x.e k).can = true) (m : Int) (hm : -9223372036854775808 ≤ m ∧ m ≤ 9223372036854775807) (hN : x.le 900000000) :
    Calls Tryz.prog 62 #[.pointer (some ⟨g, off k, none⟩), .int .i64 m] w fun e w' =>
      ∃ u F', e = .returned u ∧ RowB w' w.heap.size u ((x.e k).bs.take m.toNat) ∧ Wr w' B g n r F' v (x.drain k m.toNat) ∧ Mv w w' (FW g F) (FW g F') ∧ ∀ b, FW g F' b → FW g F b := by
  obtain ⟨out, hr⟩ := h.ring k hc
  have c4 := h.blk.c4 k
  rw [hc, rp_yes] at c4
  have HP := Lib.hid (take_any hr m hm)
  have H := Lib.hid (And.intro h hN)
  have hle := Wi.le_cut hN k m.toNat
  obtain ⟨xs, hxs⟩ : ∃ xs, xs = (x.e k).bs.take m.toNat := ⟨_, rfl⟩
  have HX := Lib.hid hxs
  have hdr : x.drain k m.toNat = if 0 < xs.length then (x.cut k m.toNat).wrRise (!k) else x.cut k m.toNat := by unfold Wi.drain; rw [hxs]
  rw [hdr]
  rw [← hxs] at HP ⊢
  have HLE := Lib.hid (hle.mono (by omega : 900000000 ≤ 1000000000))
  clear h hr hN hle hxs hdr
  by_cases h0 : 0 < xs.length
  · rw [if_pos h0]
    go_enter Tryz.func62, Tryz.ntmps62
    go_wp2_with fail
    refine HP.out.mono ?_
    rintro e w1 ⟨u, rfl, hrow, h1, h2⟩
    obtain ⟨A, hu, _⟩ := hrow.form
    obtain ⟨F1, h3, h4, h7⟩ := H.out.1.ring1 (k := k) hc h1 ⟨h2, fun _ e => .inl e⟩
    have H7 := Lib.hid (show ∀ b, FW g F1 b → FW g F b from fun b hb => (h7 b hb).elim (fun e => e) (fun e => .inr ⟨k, e⟩))
    clear h7
    rw [show x.set k { x.e k with bs := (x.e k).bs.drop m.toNat, inn := (x.e k).inn } = x.cut k m.toNat from rfl] at h3
    have HO := Lib.hid (other_any h3.blk k)
    have HR := Lib.hid (fun q => writesRise_any (h3.blk.drewN q) (!k) HLE.out)
    have H3 := Lib.hid (And.intro h3 (And.intro h4 hrow))
    have b0 : (0 : Int) < (xs.length : Int) := by omega
    subst hu
    clear h1 h2 h3 h4 hrow
    obtain ⟨L, hL⟩ : ∃ L, L = xs.length := ⟨_, rfl⟩
    rw [← hL] at b0 h0 H3 ⊢
    clear hL
    go_wp2_with fail
    refine HO.out.mono ?_
    rintro e w2 ⟨rfl, q, rfl⟩
    go_wp2_with fail
    refine (HR.out q).mono ?_
    rintro e w3 ⟨rfl, h5, h6⟩
    have HE := Lib.hid (show Wr w3 B g n r F1 v ((x.cut k m.toNat).wrRise (!k)) ∧ Mv w w3 (FW g F) (FW g F1) ∧ RowB w3 w.heap.size (.slice A L L) xs from by
      obtain ⟨a1, a2, a3⟩ := H3.out
      have k6 : Kept (fun j => j = g) w1 w3 := ((Kept.refl _ w1).drewN q).trans h6
      refine ⟨a1.turn h5 k6 (Wi.sameR_wr _ _), a2.trans ⟨FW.kept k6, fun b hb => .inl hb⟩, a3.kept k6 fun i hi e => ?_⟩
      subst e
      have := (a3.lt hi).2
      have := H.out.1.blk.lt
      omega)
    clear h5 h6
    go_wp2_with fail
    go_ret
    exact ⟨_, F1, rfl, HE.out.2.2, HE.out.1, HE.out.2.1, H7.out⟩
  · rw [if_neg h0]
    go_enter Tryz.func62, Tryz.ntmps62
    go_wp2_with fail
    refine HP.out.mono ?_
    rintro e w1 ⟨u, rfl, hrow, h1, h2⟩
    obtain ⟨A, hu, _⟩ := hrow.form
    obtain ⟨F1, h3, h4, h7⟩ := H.out.1.ring1 (k := k) hc h1 ⟨h2, fun _ e => .inl e⟩
    have H7 := Lib.hid (show ∀ b, FW g F1 b → FW g F b from fun b hb => (h7 b hb).elim (fun e => e) (fun e => .inr ⟨k, e⟩))
    clear h7
    rw [show x.set k { x.e k with bs := (x.e k).bs.drop m.toNat, inn := (x.e k).inn } = x.cut k m.toNat from rfl] at h3
    have H3 := Lib.hid (And.intro h3 (And.intro h4 hrow))
    have b0 : ¬ (0 : Int) < (xs.length : Int) := by omega
    subst hu
    clear h1 h2 h3 h4 hrow
    obtain ⟨L, hL⟩ : ∃ L, L = xs.length := ⟨_, rfl⟩
    rw [← hL] at b0 h0 H3 ⊢
    clear hL
    go_wp2_with fail
    go_ret
    exact ⟨_, F1, rfl, H3.out.2.2, H3.out.1, H3.out.2.1, H7.out⟩
end
end Go.Proofs.YtlephnfepofbbaaGreatDoor

/-
  A whole struct or array out of a block, and into a part of one, of any program: the cells are whatever, no cell is unrolled.
-/
namespace Go.Proofs.YtlephnfepofbbaaGreatDoor
open Go.RowKit

/-- A block's cells with some laid anew from a place on. -/
def putAt (cs : Array Value) (off : Nat) (c : Array Value) : Array Value := (cs.toList.take off ++ c.toList ++ cs.toList.drop (off + c.size)).toArray
theorem putAt_whole {cs c : Array Value} (h : c.size = cs.size) : putAt cs 0 c = c := by
  unfold putAt
  rw [List.take_zero, List.nil_append, Nat.zero_add, h, show cs.toList.drop cs.size = [] from List.drop_eq_nil_of_le (by simp), List.append_nil]
theorem blk_setRow {w : World} {g : Nat} {t : TypeId} {cs : Array Value} (h : Blk w g t cs) (c : Array Value) : Blk (w.setRow g c) g t c := setRow_heap w g cs c t (0, 0) h
theorem kept_setRow (w : World) (g : Nat) (c : Array Value) : Kept (fun j => j = g) w (w.setRow g c) :=
  ⟨rfl, rfl, rfl, by simp [World.setRow], fun k _ hf => by
    simp only [World.setRow]
    rw [Array.getElem?_modify, if_neg (fun e => hf e.symm)]⟩

section
variable {P : Program}
theorem run_storeVar_part {w : World} {g off : Nat} {t ty : TypeId} {cs c : Array Value} (hg : Blk w g t cs) (hi : (P.info? ty).map (·.size) = some c.size) (hfit : off + c.size ≤ cs.size) (h1 : ∀ v ∈ c, v.oneCell' = true) :
    (storeVar ty ⟨g, off, none⟩ (.agg c)).run P w = .ok () (w.setRow g (putAt cs off c)) := by
  have hs := run_storeCells_at P g off t c.toList 0 cs w hg (by simpa using hfit) (fun v hv => h1 v (by simpa using hv))
  cases hq : P.info? ty with
  | none => simp [hq] at hi
  | some i =>
    have hz : c.size = i.size := by simp [hq] at hi; omega
    simp only [Nat.add_zero, Array.length_toList] at hs
    simp [storeVar, sizeOf, typeInfo, hq, Value.cells, hz, putAt, hs]

theorem wpList_store_part {ops : Array Oper} {rest : List Oper} {o : Oper} {a : Act} {w : World} {Q : Exit → Act → World → Prop} (hgd : o.guard = none) (ty : TypeId) (x v : Operand) (ho : o.op = .store ty x v)
    {g off : Nat} (hx : a.eval x = .pointer (some ⟨g, off, none⟩)) {c : Array Value} (hv : a.eval v = .agg c) {t : TypeId} {cs : Array Value} (hg : Blk w g t cs) (hi : (P.info? ty).map (·.size) = some c.size) (hfit : off + c.size ≤ cs.size) (h1 : ∀ v ∈ c, v.oneCell' = true)
    (h : wpList P ops Q rest (a.put o.dst undef) (w.setRow g (putAt cs off c))) : wpList P ops Q (o :: rest) a w :=
  wpList_plain hgd fun K hK => by
    unfold Oper.wp execOp
    simp only [ho, hx, hv, Instr.storeAt, Instr.sureAddr, Sem.run_bind, Sem.run_pure, Result.andThen_ok, run_storeVar_part hg hi hfit h1]
    exact hK _ _ h
end
end Go.Proofs.YtlephnfepofbbaaGreatDoor

/-
  A region that draws its order: all its operations but the last one only read, and so do their callees (they may draw); the last one, which waits for all others, is walked behind them. Of any program.
-/
namespace Go.Proofs.YtlephnfepofbbaaGreatDoor
open Go.RowKit

/-- Each operation waits for earlier ones alone, and is guarded by earlier ones; the last one waits for all. -/
def lastB (l : List Oper) (o : Oper) : Bool :=
  ((List.range l.length).all fun i => o.after.any fun e => Region.binds .any e && e.on == i) && (o.after.all fun e => decide (e.on < l.length)) && o.guard.isNone &&
  ((List.range l.length).all fun j => match l[j]? with
    | some x => (x.after.all fun e => decide (e.on < j)) && (match x.guard with | some (g, _) => decide (g < l.length) | none => true)
    | none => true)

section
variable {P : Program} {C : World → Prop} {l : List Oper} {o : Oper}
theorem lastB_spec (h : lastB l o = true) : (∀ i, i < l.length → ∃ e ∈ o.after, Region.binds .any e = true ∧ e.on = i) ∧ (∀ e ∈ o.after, e.on < l.length) ∧ o.guard = none ∧
    ∀ (j : Nat) (x : Oper), l[j]? = some x → (∀ e ∈ x.after, e.on < j) ∧ ∀ (g : Nat) (b : Bool), x.guard = some (g, b) → g < l.length := by
  unfold lastB at h
  simp only [Bool.and_eq_true, List.all_eq_true, List.mem_range] at h
  obtain ⟨⟨⟨h1, h2⟩, h3⟩, h4⟩ := h
  refine ⟨fun i hi => ?_, fun e he => ?_, by simpa using h3, fun j x hj => ?_⟩
  · obtain ⟨e, he, hb⟩ := Array.any_eq_true'.1 (h1 i hi)
    simp only [Bool.and_eq_true, beq_iff_eq] at hb
    exact ⟨e, he, hb⟩
  · simpa using (Array.all_eq_true'.1 h2) e he
  · have h5 := h4 j (List.getElem?_eq_some_iff.1 hj).1
    rw [hj] at h5
    simp only [Bool.and_eq_true] at h5
    refine ⟨fun e he => by simpa using (Array.all_eq_true'.1 h5.1) e he, fun g b hg => ?_⟩
    have h6 := h5.2
    rw [hg] at h6
    simpa using h6
theorem push_false (listed : Array Bool) (j : Nat) : (listed.push false).getD j false = listed.getD j false := by
  simp only [Array.getD_eq_getD_getElem?, Array.getElem?_push]
  split
  · rename_i h; subst h; simp
  · rfl
theorem push_true (listed : Array Bool) {j : Nat} (hj : j < listed.size) : (listed.push false).getD j true = listed.getD j true := by
  simp only [Array.getD_eq_getD_getElem?, Array.getElem?_push]
  rw [if_neg (by omega)]
theorem ops_head {j : Nat} (hj : j < l.length) : (l ++ [o]).toArray[j]? = l.toArray[j]? := by
  simp [List.getElem?_append_left hj]
theorem ops_last : (l ++ [o]).toArray[l.length]? = some o := by simp
theorem ready_head {listed : Array Bool} (hs : listed.size = l.length) {i : Nat} (hi : i < l.length) : i ∈ Region.ready .any (l ++ [o]).toArray (listed.push false) ↔ i ∈ Region.ready .any l.toArray listed := by
  rw [mem_ready, mem_ready, push_true listed (by omega), ops_head hi]
  constructor
  · rintro ⟨h1, x, h2, h3⟩
    exact ⟨h1, x, h2, fun e he hb => by rw [← push_false]; exact h3 e he hb⟩
  · rintro ⟨h1, x, h2, h3⟩
    exact ⟨h1, x, h2, fun e he hb => by rw [push_false]; exact h3 e he hb⟩
theorem all_of_ready (h : lastB l o = true) {listed : Array Bool} (hr : Region.ready .any l.toArray listed = []) : ∀ (d i : Nat), i ≤ d → i < l.length → listed.getD i true = true := by
  intro d
  induction d with
  | zero =>
    intro i h0 hi
    cases hl : listed.getD i true with
    | true => rfl
    | false =>
      have : i ∈ Region.ready .any l.toArray listed := mem_ready.2 ⟨hl, l[i], by simp [hi], fun e he hb => absurd (((lastB_spec h).2.2.2 i l[i] (by simp [hi])).1 e he) (by omega)⟩
      rw [hr] at this; cases this
  | succ d ih =>
    intro i h0 hi
    cases hl : listed.getD i true with
    | true => rfl
    | false =>
      have : i ∈ Region.ready .any l.toArray listed := mem_ready.2 ⟨hl, l[i], by simp [hi], fun e he hb => by
        have hlt := ((lastB_spec h).2.2.2 i l[i] (by simp [hi])).1 e he
        have h1 := ih e.on (by omega) (by omega)
        rcases Nat.lt_or_ge e.on listed.size with h' | h'
        · simp [h'] at h1 ⊢; exact h1
        · have h2 : listed.getD i true = true := by simp [Array.getElem?_eq_none (by omega : listed.size ≤ i)]
          rw [hl] at h2; cases h2⟩
      rw [hr] at this; cases this
theorem ready_done (h : lastB l o = true) {listed : Array Bool} (hs : listed.size = l.length) (ha : ∀ i, i < l.length → listed.getD i true = true) : Region.ready .any (l ++ [o]).toArray ((listed.push false).setIfInBounds l.length true) = [] := by
  apply List.eq_nil_iff_forall_not_mem.2
  intro i hi
  obtain ⟨h1, x, h2, _⟩ := mem_ready.1 hi
  have hlt : i < l.length + 1 := by have := (Array.getElem?_eq_some_iff.1 h2).1; simpa using this
  by_cases he : i = l.length
  · subst he
    have : ((listed.push false).setIfInBounds l.length true).getD l.length true = true := by simp [hs]
    rw [this] at h1; cases h1
  · have h3 : ((listed.push false).setIfInBounds l.length true).getD i true = listed.getD i true := by
      simp only [Array.getD_eq_getD_getElem?, Array.getElem?_setIfInBounds, Array.getElem?_push]
      rw [if_neg (by omega), if_neg (by omega)]
    rw [h3, ha i (by omega)] at h1
    cases h1
theorem ready_last (h : lastB l o = true) {listed : Array Bool} (hs : listed.size = l.length) : l.length ∈ Region.ready .any (l ++ [o]).toArray (listed.push false) ↔ ∀ i, i < l.length → listed.getD i true = true := by
  obtain ⟨h1, h2, _, _⟩ := lastB_spec h
  rw [mem_ready]
  constructor
  · rintro ⟨_, x, hx, hall⟩ i hi
    rw [ops_last] at hx
    cases hx
    obtain ⟨e, he, hb, rfl⟩ := h1 i hi
    have := hall e he hb
    rw [push_false] at this
    have hlt : e.on < listed.size := by omega
    simp [hlt] at this ⊢
    exact this
  · intro ha
    refine ⟨by simp [← hs], o, ops_last, fun e he _ => ?_⟩
    have hlt : e.on < listed.size := by rw [hs]; exact h2 e he
    have := ha e.on (h2 e he)
    rw [push_false]
    simp [hlt] at this ⊢
    exact this
theorem yielded_head {tmps : Array Value} {g : Nat} (hg : g < l.length) : yielded (l ++ [o]).toArray tmps g = yielded l.toArray tmps g := by
  unfold yielded
  rw [ops_head hg]
theorem wanted_head (h : lastB l o = true) {i : Nat} {x : Oper} (hi : l[i]? = some x) (tmps : Array Value) : Region.wanted x (yielded (l ++ [o]).toArray tmps) = Region.wanted x (yielded l.toArray tmps) := by
  unfold Region.wanted
  cases hg : x.guard with
  | none => rfl
  | some p =>
    obtain ⟨g, b⟩ := p
    simp only [yielded_head (((lastB_spec h).2.2.2 i x hi).2 g b hg)]

/-- The walk of the last one. -/
theorem last_op (h : lastB l o = true) {Q : Exit → Act → World → Prop} {listed : Array Bool} (hs : listed.size = l.length) (ha : ∀ i, i < l.length → listed.getD i true = true) (f : Nat) {a : Act} {w : World}
    (hl : wpList P (l ++ [o]).toArray Q [o] a w) : wpOp P (l ++ [o]).toArray Q l.length (wpAny P .any (l ++ [o]).toArray Q f ((listed.push false).setIfInBounds l.length true)) a w := by
  have h1 : wpOp P (l ++ [o]).toArray Q l.length (wpList P (l ++ [o]).toArray Q []) a w := by
    unfold wpOp
    simp only [ops_last]
    exact hl
  refine wpOp_mono (fun a' w' h' => ?_) h1
  have hr := ready_done h hs ha
  cases f with
  | zero => exact ⟨hr, h'⟩
  | succ f => exact ⟨fun _ => h', fun i hi => by rw [hr] at hi; cases hi⟩

theorem any_of_quiet_last (h : lastB l o = true) {Qa : Act → Prop} {Q : Exit → Act → World → Prop} (hQ : ∀ a w, C w → Qa a → wpList P (l ++ [o]).toArray Q [o] a w) : ∀ (f : Nat) (listed : Array Bool) (a : Act) (w : World), C w → listed.size = l.length →
    wpAnyQ P .any l.toArray C Qa f listed a → wpAny P .any (l ++ [o]).toArray Q (f + 1) (listed.push false) a w
  | 0, listed, a, w, hw, hs, hh => by
    have ha := fun i hi => all_of_ready h hh.1 i i (Nat.le_refl _) hi
    refine ⟨fun h0 => ?_, fun i hi => ?_⟩
    · have := (ready_last h hs).2 ha
      rw [h0] at this; cases this
    · have hlt : i < l.length + 1 := by obtain ⟨_, x, h2, _⟩ := mem_ready.1 hi; have := (Array.getElem?_eq_some_iff.1 h2).1; simpa using this
      by_cases he : i = l.length
      · subst he; exact last_op h hs ha 0 (hQ a w hw hh.2)
      · have := (ready_head hs (by omega : i < l.length)).1 hi
        rw [hh.1] at this; cases this
  | f + 1, listed, a, w, hw, hs, hh => by
    refine ⟨fun h0 => ?_, fun i hi => ?_⟩
    · cases hr : Region.ready .any l.toArray listed with
      | nil =>
        have := (ready_last h hs).2 (fun i hi => all_of_ready h hr i i (Nat.le_refl _) hi)
        rw [h0] at this; cases this
      | cons j t =>
        have hj : j ∈ Region.ready .any l.toArray listed := by rw [hr]; exact List.mem_cons_self
        have hjl : j < l.length := by obtain ⟨_, x, h2, _⟩ := mem_ready.1 hj; have := (Array.getElem?_eq_some_iff.1 h2).1; simpa using this
        have := (ready_head (o := o) hs hjl).2 hj
        rw [h0] at this; cases this
    · have hlt : i < l.length + 1 := by obtain ⟨_, x, h2, _⟩ := mem_ready.1 hi; have := (Array.getElem?_eq_some_iff.1 h2).1; simpa using this
      by_cases he : i = l.length
      · subst he
        have ha := (ready_last h hs).1 hi
        refine last_op h hs ha (f + 1) (hQ a w hw (hh.1 ?_))
        apply List.eq_nil_iff_forall_not_mem.2
        intro j hj
        obtain ⟨h1, x, h2, _⟩ := mem_ready.1 hj
        have hjl : j < l.length := by have := (Array.getElem?_eq_some_iff.1 h2).1; simpa using this
        rw [ha j hjl] at h1; cases h1
      · have hil : i < l.length := by omega
        have h1 := hh.2 i ((ready_head hs hil).1 hi)
        have h2 := wpOp_of_qOp (Q' := Q) hw (fun a' w' hw' => any_of_quiet_last h hQ f (listed.setIfInBounds i true) a' w' hw' (by simpa using hs)) h1
        have e1 : (listed.push false).setIfInBounds i true = (listed.setIfInBounds i true).push false := by
          apply Array.ext_getElem?
          intro j
          simp only [Array.getElem?_setIfInBounds, Array.getElem?_push, Array.size_push, Array.size_setIfInBounds]
          by_cases hj : i = j
          · subst hj
            rw [if_pos rfl, if_pos (by omega), if_neg (by omega), if_pos rfl, if_pos (by omega)]
          · rw [if_neg hj, if_neg hj]
        rw [e1]
        unfold wpOp at h2 ⊢
        rw [ops_head hil]
        have hx : l.toArray[i]? = some l[i] := by simp [hil]
        rw [hx] at h2 ⊢
        simp only at h2 ⊢
        rw [wanted_head h (by simp [hil] : l[i]? = some l[i])]
        exact h2

theorem wp_region_quiet_last {id : Nat} {Q : Exit → Act → World → Prop} {a : Act} {w : World} {l : List Oper} (n : Nat) {o : Oper} (hd : l.drop n = [o]) (hm : P.follows .mixedOrders = true) (hB : Region.lexB .any (l.take n).toArray = true) (hL : lastB (l.take n) o = true)
    (h : wpQuiet P (l.take n).toArray (fun w' => ∃ m, w' = w.drewN m) (fun a' => ∀ w', (∃ m, w' = w.drewN m) → wpList P l.toArray Q [o] a' w') (l.take n) a) : (Code.region id l.toArray true).wp P Q a w := by
  have hl : l = l.take n ++ [o] := by rw [← hd, List.take_append_drop]
  obtain ⟨t, ht⟩ : ∃ t, t = l.take n := ⟨_, rfl⟩
  rw [← ht] at hB hL h hl
  subst hl
  simp only [Region.lexB, Bool.and_eq_true] at hB
  refine wp_region_any hm ?_
  have h1 := wpAnyQ_lex (P := P) (C := fun w' => ∃ m, w' = w.drewN m) (md := .any) hB.1 t 0 (Array.replicate t.toArray.size false) a (by simp) (by simpa using hB.2) h
  have h2 := any_of_quiet_last hL (C := fun w' => ∃ m, w' = w.drewN m) (Q := Q) (fun a' w' hw' hq => hq w' hw') t.length (Array.replicate t.toArray.size false) a { w with drawn := w.drawn + 1 } ⟨1, rfl⟩ (by simp) h1
  have e : (t ++ [o]).toArray.size = t.length + 1 := by simp
  rw [e]
  have e2 : Array.replicate (t.length + 1) false = (Array.replicate t.toArray.size false).push false := by
    rw [← Array.replicate_succ]; simp
  rw [e2]
  exact h2

theorem wpQuiet_mono {ops : Array Oper} {Q Q' : Act → Prop} (h : ∀ a, Q a → Q' a) : ∀ (l : List Oper) (a : Act), wpQuiet P ops C Q l a → wpQuiet P ops C Q' l a
  | [], a, hh => h a hh
  | x :: l, a, hh => by
    unfold wpQuiet at hh ⊢
    split
    · rename_i hw
      rw [if_pos hw] at hh
      exact Oper.quiet_mono (fun a' h' => wpQuiet_mono h l a' h') hh
    · rename_i hw
      rw [if_neg hw] at hh
      exact wpQuiet_mono h l _ hh
theorem wpQuiet_append {ops : Array Oper} {Q : Act → Prop} (l2 : List Oper) : ∀ (l1 : List Oper) (a : Act), wpQuiet P ops C (wpQuiet P ops C Q l2) l1 a → wpQuiet P ops C Q (l1 ++ l2) a
  | [], a, hh => hh
  | x :: l1, a, hh => by
    rw [List.cons_append]
    unfold wpQuiet at hh ⊢
    split
    · rename_i hw
      rw [if_pos hw] at hh
      exact Oper.quiet_mono (fun a' h' => wpQuiet_append l2 l1 a' h') hh
    · rename_i hw
      rw [if_neg hw] at hh
      exact wpQuiet_append l2 l1 _ hh
/-- A quiet walk in two parts: what the first one leaves is said by Mid. -/
theorem wpQuiet_cut {ops : Array Oper} {Q : Act → Prop} {l : List Oper} {a : Act} (n : Nat) (Mid : Act → Prop) (h1 : wpQuiet P ops C Mid (l.take n) a) (h2 : ∀ a, Mid a → wpQuiet P ops C Q (l.drop n) a) : wpQuiet P ops C Q l a := by
  rw [← List.take_append_drop n l]
  exact wpQuiet_append _ _ _ (wpQuiet_mono h2 _ _ h1)
end
end Go.Proofs.YtlephnfepofbbaaGreatDoor

/-
  What an end is ready for.
-/
namespace Go.Proofs.YtlephnfepofbbaaGreatDoor
open Go.RowKit Go.Maps Go.ChangeMaps

def rdyV (R : Rdy) : Value := .agg #[.bool R.isOpen, .bool R.rin, .bool R.out, .bool R.hup, .bool R.err, .int .u64 (R.rd : Int), .int .u64 (R.wr : Int)]

theorem rin_cases (x : Wi) (k : Bool) : (0 < x.wait.length ∧ x.rin k = true) ∨ (x.wait.length = 0 ∧ (x.e k).can = false ∧ x.rin k = false) ∨ (x.wait.length = 0 ∧ (x.e k).can = true ∧ 0 < (x.e k).bs.length ∧ x.rin k = true)
    ∨ (x.wait.length = 0 ∧ (x.e k).can = true ∧ (x.e k).bs.length = 0 ∧ x.noWriter k = true ∧ x.rin k = true) ∨ (x.wait.length = 0 ∧ (x.e k).can = true ∧ (x.e k).bs.length = 0 ∧ x.noWriter k = false ∧ x.rin k = x.reset) := by
  unfold Wi.rin
  by_cases h1 : 0 < x.wait.length
  · exact .inl ⟨h1, by simp [h1]⟩
  · refine .inr ?_
    have h1' : x.wait.length = 0 := by omega
    cases hc : (x.e k).can with
    | false => exact .inl ⟨h1', rfl, by simp [h1']⟩
    | true =>
      refine .inr ?_
      by_cases h2 : 0 < (x.e k).bs.length
      · exact .inl ⟨h1', rfl, h2, by simp [h2]⟩
      · have h2' : (x.e k).bs.length = 0 := by omega
        refine .inr ?_
        cases hn : x.noWriter k with
        | true => exact .inl ⟨h1', rfl, h2', rfl, by simp⟩
        | false => exact .inr ⟨h1', rfl, h2', rfl, by simp [h1', h2']⟩
theorem rout_cases (x : Wi) (k : Bool) : ((x.e (!k)).can = false ∧ x.out k = false) ∨ ((x.e (!k)).can = true ∧ (x.e k).shut = true ∧ x.out k = false) ∨ ((x.e (!k)).can = true ∧ (x.e k).shut = false ∧ 0 < x.cap - (x.e (!k)).bs.length ∧ x.out k = true)
    ∨ ((x.e (!k)).can = true ∧ (x.e k).shut = false ∧ x.cap - (x.e (!k)).bs.length = 0 ∧ x.noReader k = true ∧ x.out k = true) ∨ ((x.e (!k)).can = true ∧ (x.e k).shut = false ∧ x.cap - (x.e (!k)).bs.length = 0 ∧ x.noReader k = false ∧ x.out k = x.reset) := by
  unfold Wi.out
  cases hc : (x.e (!k)).can with
  | false => exact .inl ⟨rfl, by simp⟩
  | true =>
    refine .inr ?_
    cases hs : (x.e k).shut with
    | true => exact .inl ⟨rfl, rfl, by simp⟩
    | false =>
      refine .inr ?_
      by_cases h2 : 0 < x.cap - (x.e (!k)).bs.length
      · exact .inl ⟨rfl, rfl, h2, by simp [h2]⟩
      · have h2' : x.cap - (x.e (!k)).bs.length = 0 := by omega
        refine .inr ?_
        cases hn : x.noReader k with
        | true => exact .inl ⟨rfl, rfl, h2', rfl, by simp⟩
        | false => exact .inr ⟨rfl, rfl, h2', rfl, by simp [h2']⟩

/-- What the walk wants of the ring of an end: its pointer, and what it answers. -/
def RgV (W : World) (p : Value) (can : Bool) (len room : Nat) : Prop := (can = false ∧ p = .pointer none) ∨ (can = true ∧ ∃ b, p = .pointer (some ⟨b, 0, none⟩) ∧
  (∀ q, Calls Tryz.prog 108 #[.pointer (some ⟨b, 0, none⟩)] (W.drewN q) fun e w' => e = .returned (.int .i64 (len : Int)) ∧ ∃ m, w' = (W.drewN q).drewN m) ∧
  (∀ q, Calls Tryz.prog 129 #[.pointer (some ⟨b, 0, none⟩)] (W.drewN q) fun e w' => e = .returned (.int .i64 (room : Int)) ∧ ∃ m, w' = (W.drewN q).drewN m))
theorem Wr.rgv {W : World} {B g n : Nat} {r : Bool → Nat} {F : Bool → Nat → Prop} {v : Value} {x : Wi} (h : Wr W B g n r F v x) (k : Bool) : RgV W (rp (x.e k).can (r k)) (x.e k).can (x.e k).bs.length (x.cap - (x.e k).bs.length) := by
  cases hc : (x.e k).can with
  | false => exact .inl ⟨rfl, rfl⟩
  | true =>
    obtain ⟨out, hr⟩ := h.ring k hc
    exact .inr ⟨rfl, r k, rfl, fun q => len_any (hr.drewN q), fun q => room_any (hr.drewN q)⟩

section
variable {w w' : World} {B g n : Nat} {r : Bool → Nat} {F : Bool → Nat → Prop} {v : Value} {x : Wi}
end
end Go.Proofs.YtlephnfepofbbaaGreatDoor

/-
  A range over a function whose iterator may lay blocks, range over other functions, and be called in their rounds: a contract of such an iterator, and the law of a loop over it.
-/
namespace Go.Proofs.YtlephnfepofbbaaGreatDoor
open Go.RowKit Go.Shelf

/-- What an iterator may do between two rounds of a loop whose own blocks are N and N + 1: no block of cells, and none below N + 2, is turned. -/
structure ChO (N : Nat) (X Y : World) : Prop where
  os : Y.os = X.os
  tape : Y.tape = X.tape
  output : Y.output = X.output
  size : X.heap.size ≤ Y.heap.size
  low : ∀ k, k < N + 2 → k < X.heap.size → Y.heap[k]? = X.heap[k]?
  cells : ∀ (k : Nat) (o : Obj), X.heap[k]? = some o → o.isCells = true → Y.heap[k]? = some o
/-- What the law itself does besides: it turns its own record. -/
structure ChR (N : Nat) (X Y : World) : Prop where
  os : Y.os = X.os
  tape : Y.tape = X.tape
  output : Y.output = X.output
  size : X.heap.size ≤ Y.heap.size
  low : ∀ k, k < N → k < X.heap.size → Y.heap[k]? = X.heap[k]?
  cells : ∀ (k : Nat) (o : Obj), X.heap[k]? = some o → o.isCells = true → Y.heap[k]? = some o
/-- What a round keeps for the iterator: the blocks below N that Pr names; from N + 2 on all blocks but those of T. -/
structure KpO (T : Obj → Prop) (N : Nat) (Pr : Nat → Prop) (X Y : World) : Prop where
  size : X.heap.size ≤ Y.heap.size
  low : ∀ k, k < N → k < X.heap.size → Pr k → Y.heap[k]? = X.heap[k]?
  high : ∀ (k : Nat) (o : Obj), N + 2 ≤ k → X.heap[k]? = some o → ¬ T o → Y.heap[k]? = some o
/-- What speaks of cells and of blocks below N alone. -/
def Stab {β : Type} (N : Nat) (I : β → World → Prop) : Prop := ∀ s X Y, I s X → ChR N X Y → I s Y

section
variable {N M : Nat} {X Y Z : World} {T : Obj → Prop} {Pr : Nat → Prop}
theorem ChO.refl (N : Nat) (X : World) : ChO N X X := ⟨rfl, rfl, rfl, Nat.le_refl _, fun _ _ _ => rfl, fun _ _ h _ => h⟩
theorem ChO.trans (h : ChO N X Y) (k : ChO N Y Z) : ChO N X Z :=
  ⟨k.os.trans h.os, k.tape.trans h.tape, k.output.trans h.output, Nat.le_trans h.size k.size, fun i hi hl => (k.low i hi (Nat.lt_of_lt_of_le hl h.size)).trans (h.low i hi hl), fun i o ho hc => k.cells i o (h.cells i o ho hc) hc⟩
theorem ChO.toR (h : ChO N X Y) : ChR N X Y := ⟨h.os, h.tape, h.output, h.size, fun k hk hl => h.low k (by omega) hl, h.cells⟩
theorem ChR.refl (N : Nat) (X : World) : ChR N X X := (ChO.refl N X).toR
theorem ChR.trans (h : ChR N X Y) (k : ChR N Y Z) : ChR N X Z :=
  ⟨k.os.trans h.os, k.tape.trans h.tape, k.output.trans h.output, Nat.le_trans h.size k.size, fun i hi hl => (k.low i hi (Nat.lt_of_lt_of_le hl h.size)).trans (h.low i hi hl), fun i o ho hc => k.cells i o (h.cells i o ho hc) hc⟩
/-- What an inner loop's law turns, its iterator may turn. -/
theorem ChR.inner (h : ChR M X Y) (hN : N + 2 ≤ M) : ChO N X Y := ⟨h.os, h.tape, h.output, h.size, fun k hk hl => h.low k (by omega) hl, h.cells⟩
theorem ChO.inner (h : ChO M X Y) (hN : N ≤ M) : ChO N X Y := ⟨h.os, h.tape, h.output, h.size, fun k hk hl => h.low k (by omega) hl, h.cells⟩
theorem ChO.of_kept (h : Kept (fun _ => False) X Y) : ChO N X Y := ⟨h.os, h.tape, h.output, h.size, fun k _ hl => h.block k hl (fun e => e), fun k o ho _ => (h.block k (Array.getElem?_eq_some_iff.1 ho).1 (fun e => e)).trans ho⟩
theorem ChO.putObj {l : Nat} {o o' : Obj} (hl : N + 2 ≤ l) (ho : X.heap[l]? = some o) (hc : o.isCells = false) : ChO N X (X.putObj l o') :=
  ⟨rfl, rfl, rfl, by simp [World.putObj], fun k hk _ => World.putObj_heap_other (by omega), fun k q hq hqc => (World.putObj_heap_other (fun e => by subst e; rw [ho] at hq; cases hq; rw [hc] at hqc; cases hqc)).trans hq⟩
theorem ChR.putObj {l : Nat} {o o' : Obj} (hl : N ≤ l) (ho : X.heap[l]? = some o) (hc : o.isCells = false) : ChR N X (X.putObj l o') :=
  ⟨rfl, rfl, rfl, by simp [World.putObj], fun k hk _ => World.putObj_heap_other (by omega), fun k q hq hqc => (World.putObj_heap_other (fun e => by subst e; rw [ho] at hq; cases hq; rw [hc] at hqc; cases hqc)).trans hq⟩
theorem ChR.alloc (h : ChR N X Y) (o : Obj) : ChR N X (Y.alloc o) := h.trans (ChO.of_kept ((Kept.refl _ Y).alloc o)).toR
theorem KpO.refl (T : Obj → Prop) (N : Nat) (Pr : Nat → Prop) (X : World) : KpO T N Pr X X := ⟨Nat.le_refl _, fun _ _ _ _ => rfl, fun _ _ _ h _ => h⟩
theorem KpO.trans (h : KpO T N Pr X Y) (k : KpO T N Pr Y Z) : KpO T N Pr X Z :=
  ⟨Nat.le_trans h.size k.size, fun i hi hl hp => (k.low i hi (Nat.lt_of_lt_of_le hl h.size) hp).trans (h.low i hi hl hp), fun i o hi ho hT => k.high i o hi (h.high i o hi ho hT) hT⟩
theorem KpO.putObj {l : Nat} {o' : Obj} (h1 : N ≤ l) (h2 : l < N + 2) : KpO T N Pr X (X.putObj l o') :=
  ⟨by simp [World.putObj], fun k hk _ _ => World.putObj_heap_other (by omega), fun k o hk ho _ => (World.putObj_heap_other (by omega)).trans ho⟩
theorem KpO.of_kept {F : Nat → Prop} (h : Kept F X Y) (hF : ∀ k, k < X.heap.size → F k → (k < N → ¬ Pr k) ∧ (N + 2 ≤ k → ∀ o, X.heap[k]? = some o → T o)) : KpO T N Pr X Y :=
  ⟨h.size, fun k hk hl hp => h.block k hl (fun e => (hF k hl e).1 hk hp), fun k o hk ho hT => by
    have hl := (Array.getElem?_eq_some_iff.1 ho).1
    exact (h.block k hl (fun e => hT ((hF k hl e).2 hk o ho))).trans ho⟩
theorem KeepsFrom.of_kept {F : Nat → Prop} (h : Kept F X Y) (hF : ∀ k o, N ≤ k → X.heap[k]? = some o → F k → o.isCells = true) : KeepsFrom N X Y :=
  ⟨h.size, fun k o hk ho hc => (h.block k (Array.getElem?_eq_some_iff.1 ho).1 (fun e => by rw [hF k o hk ho e] at hc; cases hc)).trans ho⟩
theorem KpO.keepsFrom (h : KpO T N Pr X Y) (hT : ∀ o, T o → o.isCells = true) (hM : N + 2 ≤ M) : KeepsFrom M X Y :=
  ⟨h.size, fun k o hk ho hc => h.high k o (by omega) ho (fun e => by rw [hT o e] at hc; cases hc)⟩
end

/-- The iterator g: what comes comes one by one, each as E says behind what came before it, till all has come, or till a round says no more. -/
def SeqO {α : Type} (n : Nat) (P : Program) (g : Nat) (lb : Array Value) (encs : α → Array Value) (T : Obj → Prop) (Pr : Nat → Prop) (S Sp : List α → Prop) (E : List α → α → Prop) (N : Nat) (w : World) : Prop :=
  ∀ (l : Nat) (J Jx : List α → World → Prop) (W : World), N + 2 ≤ W.heap.size → (∀ k, k < N → W.heap[k]? = w.heap[k]?) → (∀ s A A', J s A → ChO N A A' → J s A') → (∀ s A A', Jx s A → ChO N A A' → Jx s A') →
    (∀ pre x W1, J pre W1 → E pre x → YieldAt Fence.wide (n - 1) P l (encs x) W1 fun e W' =>
      ((e = .returned (.bool true) ∧ J (pre ++ [x]) W') ∨ (e = .returned (.bool false) ∧ Jx (pre ++ [x]) W')) ∧ KpO T N Pr W1 W') →
    J [] W →
    CallsIn Fence.wide n P g (#[.func (.yield l) #[] #[]] ++ lb) W fun e W' => (∃ v, e = .returned v) ∧ ((∃ xs, S xs ∧ J xs W') ∨ (∃ pre, Sp pre ∧ Jx pre W'))

/-- How the body of a round may be left. -/
def postO {α : Type} (T : Obj → Prop) (N : Nat) (Pr : Nat → Prop) (I : List α → World → Prop) (Ix : Code → List α → World → Prop) (xs : List α) (W : World) : Exit → Act → World → Prop
  | .normal, _, W' => KeepsFrom N W W' ∧ KpO T N Pr W W' ∧ I xs W'
  | .ret, _, W' => KeepsFrom N W W' ∧ KpO T N Pr W W' ∧ Ix .ret xs W'
  | .exit id, _, W' => KeepsFrom N W W' ∧ KpO T N Pr W W' ∧ Ix (.exit id) xs W'
  | .goto t, _, W' => KeepsFrom N W W' ∧ KpO T N Pr W W' ∧ Ix (.goto t) xs W'
  | .panic _, _, _ => False
  | .outgrown, _, _ => False

abbrev markO (D : Nat) : Deferred := { target := .collected D, args := #[] }

section
variable {n : Nat} {P : Program}

theorem rangeFunc_o {α : Type} {g : Operand} {ps : Array Tmp} {assign body : Code} {Q : Exit → Act → World → Prop} {a : Act} {w : World} (h1 : 1 ≤ n)
    {gf : Nat} {lb : Array Value} (hg : a.eval g = .func (.func gf) #[] lb) (eg : ∀ args w, (callFunc gf args).run P w = .ok (.enter gf args) w)
    {encs : α → Array Value} (T : Obj → Prop) (Pr : Nat → Prop) {S Sp : List α → Prop} {E : List α → α → Prop} (hseq : SeqO (n - 1) P gf lb encs T Pr S Sp E w.heap.size w) (hps : ∀ x, (encs x).size = ps.size)
    (I : List α → World → Prop) (Ix : Code → List α → World → Prop) (hI : Stab w.heap.size I) (hIx : ∀ c, Stab w.heap.size (Ix c)) (h0 : I [] w)
    (hround : ∀ (l : Nat) (pre : List α) (x : α) (W : World), w.heap.size + 2 ≤ W.heap.size → I pre W → E pre x →
      assign.wpIn (Fence.wide.inRound l) (n - 1 - 1) P (Exit.then (fun a' W1 => KeepsFrom w.heap.size W W1 ∧ KpO T w.heap.size Pr W W1 ∧
        ∀ W2, ChR w.heap.size W1 W2 → body.wpIn (Fence.wide.inRound l) (n - 1 - 1) P (postO T w.heap.size Pr I Ix (pre ++ [x]) W2) a' W2) (fun _ _ _ => False)) { tmps := (ps.zip (encs x)).foldl (fun t (p, v) => t.setIfInBounds p v) a.tmps, defers := [] } W)
    (hdone : ∀ (xs : List α) (W : World), S xs → I xs W → W.heap[w.heap.size]? = some (.deferred (some [])) → w.heap.size + 2 ≤ W.heap.size → Q .normal { a with defers := markO w.heap.size :: a.defers } W)
    (hstop : ∀ (c : Code) (pre : List α) (W : World), Sp pre → Ix c pre W → W.heap[w.heap.size]? = some (.deferred (some [])) → w.heap.size + 2 ≤ W.heap.size → c.wpIn Fence.wide n P Q { a with defers := markO w.heap.size :: a.defers } W) :
    (Code.rangeFunc g ps assign body).wpIn Fence.wide n P Q a w := by
  refine wpIn_rangeFunc fun fn hfn => ?_
  obtain ⟨R, hR⟩ : ∃ R, R = recOf fn a ps assign body w.heap.size := ⟨_, rfl⟩
  obtain ⟨V, hV⟩ : ∃ V, (w.alloc (.deferred (some []))).alloc (.loop (R .ready none)) = V := ⟨_, rfl⟩
  have vL : V.heap[w.heap.size + 1]? = some (.loop (R .ready none)) := by
    rw [← hV]
    have h := World.alloc_heap_new (w.alloc (.deferred (some []))) (.loop (R .ready none))
    rwa [World.size_alloc] at h
  have vD : V.heap[w.heap.size]? = some (.deferred (some [])) := by
    rw [← hV]; exact (Below.heap_alloc _ _ _ (by simp)).trans (World.alloc_heap_new w _)
  have vB : ∀ k, k < w.heap.size → V.heap[k]? = w.heap[k]? := fun k hk => by
    rw [← hV]
    exact (Below.heap_alloc _ _ _ (by simp; omega)).trans (Below.heap_alloc _ _ _ hk)
  have vZ : w.heap.size + 2 ≤ V.heap.size := by rw [← hV]; simp
  have vI : I [] V := by rw [← hV]; exact hI _ _ _ h0 (((ChR.refl _ w).alloc _).alloc _)
  refine ⟨w.heap.size + 1, [{ target := .collected w.heap.size, args := #[] }], V, { target := .fn (.func gf) lb, args := #[.func (.yield (w.heap.size + 1)) #[] #[]] }, V, gf,
    #[.func (.yield (w.heap.size + 1)) #[] #[]] ++ lb, V, ?enter, ?res, ?lead, ?inv, fun _ => h1, ?call⟩
  case enter => rw [← hV, hR]; exact run_enterLoop_outer _ _ _ _ _
  case res => simp only [resolve, hg]; simp [go_sem]
  case lead => intro f' _; trivial
  case inv => simp [invoke, go_sem, eg]
  case call =>
    refine (hseq (w.heap.size + 1)
      (fun pre W => I pre W ∧ W.heap[w.heap.size + 1]? = some (.loop (R .ready none)) ∧ W.heap[w.heap.size]? = some (.deferred (some [])) ∧ w.heap.size + 2 ≤ W.heap.size)
      (fun pre W => ∃ c, Ix c pre W ∧ W.heap[w.heap.size + 1]? = some (.loop (R .done (some c))) ∧ W.heap[w.heap.size]? = some (.deferred (some [])) ∧ w.heap.size + 2 ≤ W.heap.size)
      V vZ vB
      (fun s A A' hs hc => ⟨hI s A A' hs.1 hc.toR, (hc.low _ (by omega) (by have := hs.2.2.2; omega)).trans hs.2.1, (hc.low _ (by omega) (by have := hs.2.2.2; omega)).trans hs.2.2.1, Nat.le_trans hs.2.2.2 hc.size⟩)
      (fun s A A' hs hc => by obtain ⟨c, h1, h2, h3, h4⟩ := hs; exact ⟨c, hIx c s A A' h1 hc.toR, (hc.low _ (by omega) (by omega)).trans h2, (hc.low _ (by omega) (by omega)).trans h3, Nat.le_trans h4 hc.size⟩) ?round ⟨vI, vL, vD, vZ⟩).mono ?behind
    case round =>
      rintro pre x W ⟨hi, hl, hd, hz⟩ hlen
      have hy := run_yield (P := P) (args := encs x) hl (by rw [hR]; exact hps x)
      rw [hR] at hy
      refine ⟨fn, _, assign, body, hy, roundIn_of_wpIn hfn (wpIn_mono (hround _ pre x W hz hi hlen) ?_)⟩
      clear hy
      rintro e a' W1 hp
      cases e with
      | normal =>
        obtain ⟨hkf, hkp, hb⟩ := hp
        have hl1 := hkf.same _ _ (by omega) hl rfl
        have hd1 := hkf.same _ _ (Nat.le_refl _) hd rfl
        have hlt : w.heap.size + 1 < W1.heap.size := (Array.getElem?_eq_some_iff.1 hl1).1
        refine ⟨_, run_beginRound hl1 (by rw [hR]), ?_⟩
        obtain ⟨U, hU⟩ : ∃ U, W1.putObj (w.heap.size + 1) (.loop { R .ready none with state := .busy }) = U := ⟨_, rfl⟩
        have uL : U.heap[w.heap.size + 1]? = some (.loop { R .ready none with state := .busy }) := by rw [← hU]; exact World.putObj_heap_same hlt
        have uD : U.heap[w.heap.size]? = some (.deferred (some [])) := by rw [← hU]; exact (World.putObj_heap_other (by omega)).trans hd1
        have uC : ChR w.heap.size W1 U := by rw [← hU]; exact ChR.putObj (by omega) hl1 rfl
        have uK : KpO T w.heap.size Pr W U := by rw [← hU]; exact hkp.trans (KpO.putObj (by omega) (by omega))
        have uZ : w.heap.size + 2 ≤ U.heap.size := Nat.le_trans hz (Nat.le_trans hkf.size uC.size)
        rw [hU]
        refine wpIn_mono (hb U uC) ?_
        have over : ∀ (jump : Option Code) (X : World), KeepsFrom w.heap.size U X →
            (Instr.endRound (w.heap.size + 1) jump).run P X = .ok (.bool jump.isNone) (X.putObj (w.heap.size + 1) (.loop (R (if jump.isNone then .ready else .done) jump))) ∧
            X.heap[w.heap.size + 1]? = some (.loop { R .ready none with state := .busy }) ∧
            (X.putObj (w.heap.size + 1) (.loop (R (if jump.isNone then .ready else .done) jump))).heap[w.heap.size + 1]? = some (.loop (R (if jump.isNone then .ready else .done) jump)) ∧
            (X.putObj (w.heap.size + 1) (.loop (R (if jump.isNone then .ready else .done) jump))).heap[w.heap.size]? = some (.deferred (some [])) ∧
            w.heap.size + 2 ≤ (X.putObj (w.heap.size + 1) (.loop (R (if jump.isNone then .ready else .done) jump))).heap.size := fun jump X hX => by
          have xL := hX.same _ _ (by omega) uL rfl
          have he := run_endRound (P := P) jump xL
          rw [hR] at he ⊢
          exact ⟨he, by rw [hR] at xL; exact xL, World.putObj_heap_same (Array.getElem?_eq_some_iff.1 xL).1, (World.putObj_heap_other (by omega)).trans (hX.same _ _ (Nat.le_refl _) uD rfl), by have := hX.size; simp [World.putObj]; omega⟩
        have leave : ∀ (c : Code) (X : World), KeepsFrom w.heap.size U X → KpO T w.heap.size Pr U X → Ix c (pre ++ [x]) X → ∃ v W', (Instr.endRound (w.heap.size + 1) (some c)).run P X = .ok v W' ∧ v = .bool false ∧
            (∃ c, Ix c (pre ++ [x]) W' ∧ W'.heap[w.heap.size + 1]? = some (.loop (R .done (some c))) ∧ W'.heap[w.heap.size]? = some (.deferred (some [])) ∧ w.heap.size + 2 ≤ W'.heap.size) ∧ KpO T w.heap.size Pr W W' := fun c X hX hk hx => by
          obtain ⟨hr, b1, b2, b3, b4⟩ := over (some c) X hX
          exact ⟨_, _, hr, rfl, ⟨c, hIx c _ _ _ hx (ChR.putObj (by omega) b1 rfl), b2, b3, b4⟩, uK.trans (hk.trans (KpO.putObj (by omega) (by omega)))⟩
        rintro e b X hp
        cases e with
        | normal =>
          obtain ⟨hX, hk, hi2⟩ := hp
          obtain ⟨hr, b1, b2, b3, b4⟩ := over none X hX
          exact ⟨_, _, hr, .inl ⟨rfl, hI _ _ _ hi2 (ChR.putObj (by omega) b1 rfl), b2, b3, b4⟩, uK.trans (hk.trans (KpO.putObj (by omega) (by omega)))⟩
        | ret => obtain ⟨v, W', h1, rfl, h2, h3⟩ := leave _ X hp.1 hp.2.1 hp.2.2; exact ⟨_, _, h1, .inr ⟨rfl, h2⟩, h3⟩
        | exit id => obtain ⟨v, W', h1, rfl, h2, h3⟩ := leave _ X hp.1 hp.2.1 hp.2.2; exact ⟨_, _, h1, .inr ⟨rfl, h2⟩, h3⟩
        | goto t => obtain ⟨v, W', h1, rfl, h2, h3⟩ := leave _ X hp.1 hp.2.1 hp.2.2; exact ⟨_, _, h1, .inr ⟨rfl, h2⟩, h3⟩
        | panic ch => exact hp.elim
        | outgrown => exact hp.elim
      | ret => exact hp.elim
      | exit id => exact hp.elim
      | goto t => exact hp.elim
      | panic ch => exact hp.elim
      | outgrown => exact hp.elim
    case behind =>
      rintro e X ⟨⟨v, rfl⟩, (⟨xs, hSx, hi, hl, hd, hz⟩ | ⟨pre, hSp, c, hi, hl, hd, hz⟩)⟩
      · have he := run_endLoop (P := P) hl (by rw [hR]; simp)
        rw [hR] at he
        exact ⟨none, _, he, hdone xs _ hSx (hI _ _ _ hi (ChR.putObj (by omega) hl rfl)) ((World.putObj_heap_other (by omega)).trans hd) (by simpa [World.putObj] using hz)⟩
      · have he := run_endLoop (P := P) hl (by rw [hR]; simp)
        rw [hR] at he
        exact ⟨some c, _, he, hstop c pre _ hSp (hIx c _ _ _ hi (ChR.putObj (by omega) hl rfl)) ((World.putObj_heap_other (by omega)).trans hd) (by simpa [World.putObj] using hz)⟩

/-- Marks on the way out: each is taken, and hands over nothing. -/
theorem leaves_marks {fn : Func} {tmps : Array Value} {R : Ending → World → Prop} (N : Nat) : ∀ (Ds : List Nat) (W : World), Ds.Nodup → (∀ D ∈ Ds, N + 2 ≤ D ∧ W.heap[D]? = some (.deferred (some []))) →
    (∀ W', ChO N W W' → LeavesInM Fence.wide n P fn tmps R [] .returning W') → LeavesInM Fence.wide n P fn tmps R (Ds.map markO) .returning W
  | [], W, _, _, h => h W (ChO.refl _ _)
  | D :: Ds, W, hn, hD, h => by
    obtain ⟨h1, h2⟩ := hD D (by simp)
    refine ⟨by simp, .inl ⟨D, _, rfl, run_takeDeferred h2, ?_⟩⟩
    have hc : ChO N W (W.putObj D (.deferred none)) := ChO.putObj h1 h2 rfl
    refine leaves_marks N Ds _ (List.nodup_cons.1 hn).2 (fun E hE => ?_) (fun W' hW' => h W' (hc.trans hW'))
    obtain ⟨g1, g2⟩ := hD E (List.mem_cons_of_mem _ hE)
    refine ⟨g1, (World.putObj_heap_other (fun e => ?_)).trans g2⟩
    subst e
    exact (List.nodup_cons.1 hn).1 hE
end
end Go.Proofs.YtlephnfepofbbaaGreatDoor

/-
  A slice in a box that a range over a function fills, of any program and any kind of row; a number in such a box; append of one, and a store of a whole array, in a round.
-/
namespace Go.Proofs.YtlephnfepofbbaaGreatDoor
open Go.RowKit Go.Maps Go.ChangeMaps Go.Shelf

/-- Blocks of cells. -/
def TCe (o : Obj) : Prop := o.isCells = true
theorem boxed_chR {X Y : World} {M b : Nat} {t : TypeId} {v : Value} (h : Boxed X b t v) (k : ChR M X Y) : Boxed Y b t v := k.cells _ _ h rfl
theorem blk_chR {X Y : World} {M b : Nat} {t : TypeId} {cs : Array Value} (h : Blk X b t cs) (k : ChR M X Y) : Blk Y b t cs := k.cells _ _ h rfl
theorem below_chR {w X Y : World} {N : Nat} (h : Below w.heap.size w X) (k : ChR N X Y) (hN : w.heap.size ≤ N) : Below w.heap.size w Y :=
  ⟨k.os.trans h.os, k.tape.trans h.tape, k.output.trans h.output, Nat.le_trans h.size k.size, fun i hi => (k.low i (by omega) (Nat.lt_of_lt_of_le hi h.size)).trans (h.block i hi)⟩
theorem boxed_set {W : World} {b : Nat} {t : TypeId} {v : Value} (h : Boxed W b t v) (u : Value) : Boxed (W.setCell ⟨b, 0, none⟩ u) b t u := by
  have hb2 : Blk W b t #[v] := h
  have := hb2.set_ 0 u
  simpa [Boxed, Blk] using this

section
variable {P : Program} {α : Type} {R : RowK P α} {w W X Y w1 : World} {N b M B : Nat} {v v' : Value} {xs pre : List α} {x : α}
theorem RowK.own_chR (h : R.own X B v xs) (k : ChR M X Y) : R.own Y B v xs := RowK.own_same h fun j e => by
  rcases h.2 with ⟨e2, _⟩ | ⟨g, cap, cur, rfl, hb, hg, _⟩
  · rw [e2] at e; cases e
  · cases e
    exact (k.cells _ _ hg rfl).trans hg.symm
/-- The box of a slice that has been collected so far. -/
structure ColR (R : RowK P α) (w : World) (b N : Nat) (pre : List α) (W : World) : Prop where
  ex : ∃ v, Boxed W b R.s v ∧ R.own W N v pre
  bel : Below w.heap.size w W
theorem ColR.chR (h : ColR R w b N pre X) (k : ChR M X Y) (hM : w.heap.size ≤ M) : ColR R w b N pre Y := by
  obtain ⟨v, h1, h2⟩ := h.ex
  exact ⟨⟨v, boxed_chR h1 k, RowK.own_chR h2 k⟩, below_chR h.bel k hM⟩
theorem ColR.step {o : Obj} {Pr : Nat → Prop} (i3 : Boxed W b R.s v) (io : R.own W N v pre) (ib : Below w.heap.size w W) (hb : b < N) (hwb : w.heap.size ≤ b)
    (hg : (W.alloc o).grownBy w1 v.ownBlock) (O1 : R.own w1 N v' (pre ++ [x])) (hP : ∀ k, Pr k → k ≠ b) :
    ColR R w b N (pre ++ [x]) (w1.setCell ⟨b, 0, none⟩ v') ∧ KeepsFrom N W (w1.setCell ⟨b, 0, none⟩ v') ∧ KpO TCe N Pr W (w1.setCell ⟨b, 0, none⟩ v') := by
  have lt := i3.lt
  have ez : (W.alloc o).heap.size = W.heap.size + 1 := by simp
  have sz : W.heap.size ≤ (w1.setCell ⟨b, 0, none⟩ v').heap.size := by
    have := hg.size
    simp [World.setCell] at this ⊢; omega
  have s1 : ∀ k, k < W.heap.size → v.ownBlock ≠ some k → w1.heap[k]? = W.heap[k]? := fun k hk hn => (hg.block k (by omega) (fun e => hn e.symm)).trans (Below.heap_alloc W o k hk)
  have same : ∀ k, k < W.heap.size → k ≠ b → v.ownBlock ≠ some k → (w1.setCell ⟨b, 0, none⟩ v').heap[k]? = W.heap[k]? := fun k hk hkb hn => (Below.heap_setCell _ _ _ _ hkb).trans (s1 k hk hn)
  have hN : ∀ k, v.ownBlock = some k → N ≤ k := fun k e => (RowK.own_lt io e).2
  have hT : ∀ k ob, v.ownBlock = some k → W.heap[k]? = some ob → TCe ob := fun k ob e ho => by
    rcases io.2 with ⟨e2, _⟩ | ⟨g, cap, cur, rfl, _, hg2, _⟩
    · rw [e2] at e; cases e
    · cases e
      rw [hg2] at ho; cases ho; rfl
  refine ⟨⟨⟨v', boxed_set (t := R.s) (v := v) ((s1 b lt (fun e => by have := hN b e; omega)).trans i3) v', RowK.own_same O1 fun k e => Below.heap_setCell _ _ _ _ (by have := (RowK.own_lt O1 e).2; simp; omega)⟩, ?_⟩, ⟨sz, fun k ob hk ho hc => (same k (Array.getElem?_eq_some_iff.1 ho).1 (by omega) fun e => by
      have := hT k ob e ho
      unfold TCe at this; rw [hc] at this; cases this).trans ho⟩, ⟨sz, fun k hk hl hp => same k hl (hP k hp) (fun e => by have := hN k e; omega), fun k ob hk ho hc => (same k (Array.getElem?_eq_some_iff.1 ho).1 (by omega) fun e => hc (hT k ob e ho)).trans ho⟩⟩
  exact ((ib.alloc ib.size o).grown hg (by have := ib.size; omega) (fun k e => by have := hN k e; omega)).setCell hwb v'

/-- append(s, x) in a round. -/
theorem RowK.append_in {F : Fence} {n : Nat} {ops : Array Oper} {rest : List Oper} {o : Oper} {a : Act} {Q : Exit → Act → World → Prop} (hgd : o.guard = none) (s y : Operand)
    (ho : o.op = .call { callee := .builtin .append, args := #[s, y], argTypes := #[R.s, R.s] }) (B : Nat) (v : Value) (xs : List α) (x : α) (hs : a.eval s = v) (hown : R.own w B v xs) {ad : Addr} {c : Nat} (hy : a.eval y = .slice (some ad) 1 c)
    (hr : R.shows w (some ad) [x]) (hlen : xs.length + 1 ≤ 100000000) (hB : B ≤ w.heap.size)
    (h : ∀ g cap w', R.own w' B (.slice (some ⟨g, 0, none⟩) (xs.length + 1) cap) (xs ++ [x]) → w.grownBy w' v.ownBlock → wpListIn F n P ops Q rest (a.put o.dst (.slice (some ⟨g, 0, none⟩) (xs.length + 1) cap)) w') : wpListIn F n P ops Q (o :: rest) a w := by
  obtain ⟨i0, hi, hz0, hz1, hz2⟩ := row_info R.info
  have hb := R.by_
  have hbig : (xs.length + 1) * R.bytes ≤ 140737488355328 := by
    have := Nat.mul_le_mul hlen hb
    omega
  obtain ⟨g, off, e, _, hl⟩ := hr (by simp)
  cases e
  refine wpListIn_append_own w hgd s y _ ho B _ i0 _ R.n R.bytes R.und hi hz0 hz1 hz2 R.zs R.pos v xs.length (R.all xs) hs hown ⟨g, off, none⟩ 1 c (R.all [x]) hy (R.all_len [x]) (fun j u hu => ?_) (R.all_one [x]) (by unfold maxLen; omega) hbig hB
    (fun v' w' h1 h2 _ => ?_)
  · have hj : j < R.n := by have := (List.getElem?_eq_some_iff.1 hu).1; rw [R.all_len] at this; simpa using this
    have hadd : (⟨g, off, none⟩ : Addr).add j = ⟨g, off + j, none⟩ := by unfold Addr.add; split <;> simp_all
    have e1 := hl 0 x rfl j hj
    have e2 := R.all_at [x] 0 x rfl j hj
    rw [Nat.zero_mul, Nat.zero_add] at e1 e2
    rw [hadd, e1, ← e2, hu]
  · have h3 : R.own w' B v' (xs ++ [x]) := by unfold RowK.own; rw [List.length_append, R.all_append]; exact h1
    rcases h1.2 with ⟨_, hn⟩ | ⟨g', cap, cur, rfl, _⟩
    · omega
    · exact h g' cap w' h3 h2
end

section
variable {P : Program}
/-- A store of a whole array into a block, in a round or behind one. -/
theorem wpListIn_store_part {F : Fence} {n : Nat} {ops : Array Oper} {rest : List Oper} {o : Oper} {a : Act} {w : World} {Q : Exit → Act → World → Prop} (hgd : o.guard = none) (ty : TypeId) (x v : Operand) (ho : o.op = .store ty x v)
    {g off : Nat} (hx : a.eval x = .pointer (some ⟨g, off, none⟩)) {c : Array Value} (hv : a.eval v = .agg c) {t : TypeId} {cs : Array Value} (hg : Blk w g t cs) (hi : (P.info? ty).map (·.size) = some c.size) (hfit : off + c.size ≤ cs.size) (h1 : ∀ v ∈ c, v.oneCell' = true)
    (h : wpListIn F n P ops Q rest (a.put o.dst undef) (w.setRow g (putAt cs off c))) : wpListIn F n P ops Q (o :: rest) a w := by
  refine wpListIn_plain hgd fun K hK => ?_
  unfold Oper.wpIn
  refine ⟨?_, ?_⟩
  · simp [Oper.about, ho]
  · rw [Oper.semAt_plain F _ _ (by rw [ho]; intro c hc'; cases hc')]
    simp only [execOp, ho, hx, hv, Instr.storeAt, Instr.sureAddr, Sem.run_bind, Sem.run_pure, Result.andThen_ok, run_storeVar_part hg hi hfit h1]
    exact hK _ _ h

/-- A number in a box that grows, round by round. -/
structure ColN (w : World) (b : Nat) (t : TypeId) (v : Value) (W : World) : Prop where
  ex : Boxed W b t v
  bel : Below w.heap.size w W
variable {w X Y W : World} {b N M : Nat} {t : TypeId} {v : Value}
theorem ColN.chR (h : ColN w b t v X) (k : ChR M X Y) (hM : w.heap.size ≤ M) : ColN w b t v Y := ⟨boxed_chR h.ex k, below_chR h.bel k hM⟩
theorem ColN.step {Pr : Nat → Prop} {T : Obj → Prop} (h : ColN w b t v W) (hb : b < N) (hwb : w.heap.size ≤ b) (hP : ∀ k, Pr k → k ≠ b) (u : Value) :
    ColN w b t u (W.setCell ⟨b, 0, none⟩ u) ∧ KeepsFrom N W (W.setCell ⟨b, 0, none⟩ u) ∧ KpO T N Pr W (W.setCell ⟨b, 0, none⟩ u) := by
  have k : Kept (fun i => i = b) W (W.setCell ⟨b, 0, none⟩ u) := (Kept.refl (fun i => i = b) W).setCell (p := ⟨b, 0, none⟩) rfl u
  exact ⟨⟨boxed_set h.ex u, h.bel.setCell hwb u⟩, KeepsFrom.of_kept k (fun i o hi ho e => by omega), KpO.of_kept k (fun i _ e => ⟨fun _ hp => hP i hp e, fun hi => by omega⟩)⟩
end
end Go.Proofs.YtlephnfepofbbaaGreatDoor

/-
  What a world keeps: its block of a hundred cells; the descriptors that are open, or free, one by one.
-/
namespace Go.Proofs.YtlephnfepofbbaaGreatDoor
open Go.RowKit Go.Maps Go.ChangeMaps Go.Shelf

attribute [local go_sem] Oper.semAt_some

/-- Rows of numbers. -/
def RI : RowK Tryz.prog Nat where
  e := 3
  s := 34
  n := 1
  bytes := 8
  zero := .int .i64 0
  enc := fun z => [.int .i64 (z : Int)]
  pos := by decide
  by_ := by decide
  len := fun _ => rfl
  one := fun x u hu => by
    simp at hu
    subst hu; rfl
  und := Tryz.underlying34
  info := by kernel_rfl
  zs := by decide

/-- The cells of what a world keeps: ticks, wires, the descriptors' pointers, signals, the notice. -/
def cellsK (now : Nat) (wv : Value) (pv : Nat → Option Addr) (sv nv : Value) : Array Value := (.int .u64 (now : Int) :: wv :: ((List.range 96).map fun i => Value.pointer (pv i)) ++ [sv, nv]).toArray
theorem cellsK_size (now : Nat) (wv : Value) (pv : Nat → Option Addr) (sv nv : Value) : (cellsK now wv pv sv nv).size = 100 := by simp [cellsK]
theorem cellsK_fd (now : Nat) (wv : Value) (pv : Nat → Option Addr) (sv nv : Value) {i : Nat} (hi : i < 96) : (cellsK now wv pv sv nv)[2 + i]? = some (.pointer (pv i)) := by
  unfold cellsK
  rw [Nat.add_comm 2 i]
  simp [List.getElem?_append_left, hi]
theorem cellsK_sv (now : Nat) (wv : Value) (pv : Nat → Option Addr) (sv nv : Value) : (cellsK now wv pv sv nv)[98]? = some sv := by
  unfold cellsK
  simp [List.getElem?_append_right]
theorem cellsK_nv (now : Nat) (wv : Value) (pv : Nat → Option Addr) (sv nv : Value) : (cellsK now wv pv sv nv)[99]? = some nv := by
  unfold cellsK
  simp [List.getElem?_append_right]
def Kb (W : World) (g now : Nat) (wv : Value) (pv : Nat → Option Addr) (sv nv : Value) : Prop := Blk W g 66 (cellsK now wv pv sv nv)
def updA (f : Nat → Option Addr) (i : Nat) (v : Option Addr) : Nat → Option Addr := fun j => if j = i then v else f j
section
variable {w w' : World} {g now : Nat} {wv : Value} {pv : Nat → Option Addr} {sv nv : Value}
theorem Kb.lt (h : Kb w g now wv pv sv nv) : g < w.heap.size := Blk.lt h
theorem Kb.same (h : Kb w g now wv pv sv nv) (e : w'.heap[g]? = w.heap[g]?) : Kb w' g now wv pv sv nv := Blk.same h e
theorem Kb.frozen (h : Kb w g now wv pv sv nv) (i : Nat) : w.frozen? ⟨g, i, none⟩ = false := Blk.frozen h i
theorem Kb.c0 (h : Kb w g now wv pv sv nv) : w.cell? ⟨g, 0, none⟩ = some (.int .u64 (now : Int)) := by rw [Blk.cell h]; rfl
theorem Kb.c1 (h : Kb w g now wv pv sv nv) : w.cell? ⟨g, 1, none⟩ = some wv := by rw [Blk.cell h]; rfl
theorem Kb.fd (h : Kb w g now wv pv sv nv) {i : Nat} (hi : i < 96) : w.cell? ⟨g, 2 + i, none⟩ = some (.pointer (pv i)) := (Blk.cell h _).trans (cellsK_fd _ _ _ _ _ hi)
theorem Kb.c98 (h : Kb w g now wv pv sv nv) : w.cell? ⟨g, 98, none⟩ = some sv := (Blk.cell h _).trans (cellsK_sv _ _ _ _ _)
theorem Kb.c99 (h : Kb w g now wv pv sv nv) : w.cell? ⟨g, 99, none⟩ = some nv := (Blk.cell h _).trans (cellsK_nv _ _ _ _ _)
theorem Kb.set0 (h : Kb w g now wv pv sv nv) (m : Nat) : Kb (w.setCell ⟨g, 0, none⟩ (.int .u64 (m : Int))) g m wv pv sv nv := by
  have := Blk.set_ h 0 (.int .u64 (m : Int)); exact this
theorem Kb.set1 (h : Kb w g now wv pv sv nv) (v : Value) : Kb (w.setCell ⟨g, 1, none⟩ v) g now v pv sv nv := by
  have := Blk.set_ h 1 v; exact this
theorem Kb.setFd (h : Kb w g now wv pv sv nv) {i : Nat} (hi : i < 96) (a : Option Addr) : Kb (w.setCell ⟨g, 2 + i, none⟩ (.pointer a)) g now wv (updA pv i a) sv nv := by
  have := Blk.set_ h (2 + i) (.pointer a)
  rw [show (cellsK now wv pv sv nv).setIfInBounds (2 + i) (.pointer a) = cellsK now wv (updA pv i a) sv nv from by
    unfold cellsK
    apply Array.ext_getElem?
    intro j
    rw [Nat.add_comm 2 i]
    simp only [List.setIfInBounds_toArray, List.getElem?_toArray, List.cons_append, List.set_cons_succ]
    rcases j with _ | _ | j
    · rfl
    · rfl
    · simp only [List.getElem?_cons_succ, List.getElem?_set, List.getElem?_append, List.length_map, List.length_range, List.length_append, List.length_cons, List.length_nil, List.getElem?_map]
      by_cases h1 : i = j
      · subst h1
        have h2 : i < 96 + (0 + 1 + 1) := by omega
        simp [hi, h2, updA, List.getElem?_range hi]
      · by_cases h2 : j < 96
        · have h3 : ¬ j = i := fun e => h1 e.symm
          simp [h1, h2, updA, h3, List.getElem?_range h2]
        · simp [h1, h2]] at this
  exact this
theorem Kb.set99 (h : Kb w g now wv pv sv nv) (v : Value) : Kb (w.setCell ⟨g, 99, none⟩ v) g now wv pv sv v := by
  have := Blk.set_ h 99 v; exact this
end

/-- The numbers below k that are open, or free. -/
def numsA (pv : Nat → Option Addr) (b : Bool) (k : Nat) : List Nat := (List.range k).filter fun i => (pv i).isSome == b
theorem numsA_succ (pv : Nat → Option Addr) (b : Bool) (k : Nat) : numsA pv b (k + 1) = if (pv k).isSome == b then numsA pv b k ++ [k] else numsA pv b k := by
  unfold numsA
  rw [List.range_succ, List.filter_append]
  by_cases h : ((pv k).isSome == b) = true
  · rw [if_pos h]; simp [h]
  · rw [if_neg h]; simp [h]
theorem numsA_split (pv : Nat → Option Addr) (b : Bool) {i : Nat} (hi : i < 96) (hc : ((pv i).isSome == b) = true) : ∃ R, numsA pv b i ++ i :: R = numsA pv b 96 := by
  have h : ∀ j, ∃ R, numsA pv b (i + 1 + j) = numsA pv b (i + 1) ++ R := fun j => by
    induction j with
    | zero => exact ⟨[], by simp⟩
    | succ j ih =>
      obtain ⟨R, hR⟩ := ih
      rw [← Nat.add_assoc, numsA_succ]
      split
      · exact ⟨R ++ [i + 1 + j], by rw [hR, List.append_assoc]⟩
      · exact ⟨R, hR⟩
  obtain ⟨R, hR⟩ := h (95 - i)
  have e1 : numsA pv b (i + 1) = numsA pv b i ++ [i] := by rw [numsA_succ, if_pos hc]
  rw [show i + 1 + (95 - i) = 96 by omega, e1] at hR
  exact ⟨R, by rw [hR]; simp⟩
theorem numsA_len (pv : Nat → Option Addr) (b : Bool) (k : Nat) : (numsA pv b k).length ≤ k := by
  have := List.length_filter_le (fun i => (pv i).isSome == b) (List.range k)
  rw [List.length_range] at this
  exact this

def encI (i : Nat) : Array Value := #[.int .i64 (i : Int)]
/-- Behind a number that was told. -/
def NumFin (J Jx : List Nat → World → Prop) (O : Obj → Prop) (N : Nat) (Pr : Nat → Prop) (xs : List Nat) (W1 : World) (more : Bool) (W' : World) : Prop := (more = true → J xs W') ∧ (more = false → Jx xs W') ∧ KpO O N Pr W1 W'
theorem numbers_call (w : World) (g : Nat) (b : Bool) : Calls Tryz.prog 51 #[.pointer (some ⟨g, 0, none⟩), .bool b] w fun e w' =>
    e = .returned (.func (.func 98) #[] #[.pointer (some ⟨w.heap.size, 0, none⟩), .pointer (some ⟨w.heap.size + 1, 0, none⟩)]) ∧ w' = (w.alloc (.cells #[.pointer (some ⟨g, 0, none⟩)] 59)).alloc (.cells #[.bool b] 4) := by
  go_enter Tryz.func51, Tryz.ntmps51
  go_wp2
  go_ret
  exact ⟨rfl, rfl⟩

set_option maxRecDepth 100000 in
set_option maxHeartbeats 8000000 in
theorem num_o (n : Nat) (hn : 1 ≤ n) {w : World} {g now : Nat} {wv : Value} {pv : Nat → Option Addr} {sv nv : Value} (b : Bool) (hT : Kb w g now wv pv sv nv) (bK bB : Nat) (hK : Boxed w bK 59 (.pointer (some ⟨g, 0, none⟩))) (hb : Boxed w bB 4 (.bool b))
    (O : Obj → Prop) (Pr : Nat → Prop) (N : Nat) (hN : bK < N ∧ Pr bK) (hN2 : bB < N ∧ Pr bB) (hk : g < N ∧ Pr g) :
    SeqO n Tryz.prog 98 #[.pointer (some ⟨bK, 0, none⟩), .pointer (some ⟨bB, 0, none⟩)] encI O Pr (fun xs => xs = numsA pv b 96) (fun _ => True) (fun pre x => ∃ R, pre ++ x :: R = numsA pv b 96) N w := by
  intro l J Jx W hz hW hJ hJx hY h0
  have b1 : Kb W g now wv pv sv nv := hT.same (hW g hk.1)
  have k1 : Boxed W bK 59 (.pointer (some ⟨g, 0, none⟩)) := (hW bK hN.1).trans hK
  have k2 : Boxed W bB 4 (.bool b) := (hW bB hN2.1).trans hb
  have HY := Lib.hid hY
  have H0 := Lib.hid (And.intro h0 (And.intro b1 (And.intro k1 k2)))
  have HP := Lib.hid (And.intro hN (And.intro hN2 hk))
  have HJd := Lib.hid hJ
  clear hJ hJx hY h0 hW b1 k1 k2 hT hK hb hN hN2 hk
  refine callsIn_of_wp Tryz.func98 rfl trivial ?_ rfl
  simp only [Tryz.ntmps98, List.size_toArray, List.length_cons, List.length_nil, Nat.reduceAdd, Nat.reduceSub, Array.replicate_succ, Array.replicate_zero, List.push_toArray, List.append_toArray, List.nil_append, List.cons_append]
  gi_wp2_with fail
  gi_loopw [5] (fun v wr => ∃ i : Nat, v = .int .i64 (i : Int) ∧ i ≤ 96 ∧ J (numsA pv b i) wr ∧ Kb wr g now wv pv sv nv ∧ Boxed wr bK 59 (.pointer (some ⟨g, 0, none⟩)) ∧ Boxed wr bB 4 (.bool b)) (fun v _ => 96 - (intOf v).toNat)
  case atStart => exact ⟨0, rfl, Nat.zero_le _, H0.out⟩
  case round =>
    obtain ⟨i, rfl, hi, hJ1, hT1, hK1, hB1⟩ := hrel
    by_cases hlt : i < 96
    · have b0 : (0 : Int) ≤ (i : Int) := by omega
      have b1 : (i : Int) < 96 := by omega
      have c1 := hT1.fd hlt
      have cK := hK1.cell
      have cB := hB1.cell
      have lk := hT1.lt
      have lK := hK1.lt
      have lB := hB1.lt
      cases hp : pv i with
      | none =>
        rcases Bool.eq_false_or_eq_true b with hb | hb
        · skip
          have HR := Lib.hid (show J (numsA pv b (i + 1)) wr ∧ Kb wr g now wv pv sv nv ∧ Boxed wr bK 59 (.pointer (some ⟨g, 0, none⟩)) ∧ Boxed wr bB 4 (.bool b) by
            rw [numsA_succ, if_neg (by rw [hp]; simp [hb])]; exact ⟨hJ1, hT1, hK1, hB1⟩)
          rw [hp] at c1
          rw [hb] at cB
          clear hJ1 hT1 hK1 hB1 hp
          gi_wp2_with fail
          refine wpIn_wide.2 ?_
          go_quiet (fail)
          gi_wp2_with fail
          go_roundw
          case rel => exact ⟨i + 1, by go_num, by omega, HJd.out _ _ _ HR.out.1 (ChO.of_kept ((Kept.refl _ wr).drewN nq)), HR.out.2⟩
          case measure => simp [intOf] <;> omega
        · skip
          have hq : ((pv i).isSome == b) = true := by rw [hp]; simp [hb]
          obtain ⟨fn, tmps, assign, body, hy, hRd⟩ := HY.out (numsA pv b i) i wr.drew (HJd.out _ _ _ hJ1 (ChO.of_kept ((Kept.refl _ wr).drewN 1))) (numsA_split pv b hlt hq)
          have HE := Lib.hid (And.intro (show numsA pv b (i + 1) = numsA pv b i ++ [i] by rw [numsA_succ, if_pos hq]) (And.intro hT1 (And.intro hK1 hB1)))
          rw [hp] at c1
          rw [hb] at cB
          simp only [encI] at hy
          clear hJ1 hT1 hK1 hB1 hp hq
          have hR3 : RoundIn Fence.wide (n - 1) Tryz.prog l fn tmps assign body wr.drew fun e W' => ∃ more : Bool, e = .returned (.bool more) ∧ NumFin J Jx O N Pr (numsA pv b i ++ [i]) wr.drew more W' := by
            refine hRd.mono ?_
            rintro e W4 ⟨(⟨rfl, h1⟩ | ⟨rfl, h1⟩), h2⟩
            · exact ⟨true, rfl, fun _ => h1, (fun e => by cases e), h2⟩
            · exact ⟨false, rfl, (fun e => by cases e), fun _ => h1, h2⟩
          clear hRd
          have hmx : Tryz.prog.follows .mixedOrders = true := by kernel_rfl
          gi_wp2_with fail
          gi_region_with_o (refine hR3.mono ?_; rintro e W4 ⟨more, rfl, hF⟩)
          all_goals (
            have HF := Lib.hid hF
            clear hF hy hR3
            cases more with
            | true =>
              obtain ⟨he, hT1, hK1, hB1⟩ := HE.out
              obtain ⟨f1, _, f3⟩ := HF.out
              obtain ⟨hN, hN2, hk⟩ := HP.out
              have HR := Lib.hid (show J (numsA pv b (i + 1)) W4 ∧ Kb W4 g now wv pv sv nv ∧ Boxed W4 bK 59 (.pointer (some ⟨g, 0, none⟩)) ∧ Boxed W4 bB 4 (.bool b) from
                ⟨he ▸ f1 rfl, hT1.same (f3.low g hk.1 hT1.lt hk.2), (f3.low bK hN.1 hK1.lt hN.2).trans hK1, (f3.low bB hN2.1 hB1.lt hN2.2).trans hB1⟩)
              clear f1 f3 hT1 hK1 hB1 he hN hN2 hk
              gi_wp2_with fail
              go_roundw
              case rel => exact ⟨i + 1, by go_num, by omega, HR.out⟩
              case measure => simp [intOf] <;> omega
            | false =>
              gi_wp2_with fail
              refine bodyPost_ret (results_none rfl _ _ _) rfl ?_
              exact ⟨⟨_, rfl⟩, .inr ⟨_, trivial, HF.out.2.1 rfl⟩⟩)
      | some a =>
        rcases Bool.eq_false_or_eq_true b with hb | hb
        · skip
          have hq : ((pv i).isSome == b) = true := by rw [hp]; simp [hb]
          obtain ⟨fn, tmps, assign, body, hy, hRd⟩ := HY.out (numsA pv b i) i wr.drew (HJd.out _ _ _ hJ1 (ChO.of_kept ((Kept.refl _ wr).drewN 1))) (numsA_split pv b hlt hq)
          have HE := Lib.hid (And.intro (show numsA pv b (i + 1) = numsA pv b i ++ [i] by rw [numsA_succ, if_pos hq]) (And.intro hT1 (And.intro hK1 hB1)))
          rw [hp] at c1
          rw [hb] at cB
          simp only [encI] at hy
          clear hJ1 hT1 hK1 hB1 hp hq
          have hR3 : RoundIn Fence.wide (n - 1) Tryz.prog l fn tmps assign body wr.drew fun e W' => ∃ more : Bool, e = .returned (.bool more) ∧ NumFin J Jx O N Pr (numsA pv b i ++ [i]) wr.drew more W' := by
            refine hRd.mono ?_
            rintro e W4 ⟨(⟨rfl, h1⟩ | ⟨rfl, h1⟩), h2⟩
            · exact ⟨true, rfl, fun _ => h1, (fun e => by cases e), h2⟩
            · exact ⟨false, rfl, (fun e => by cases e), fun _ => h1, h2⟩
          clear hRd
          have hmx : Tryz.prog.follows .mixedOrders = true := by kernel_rfl
          gi_wp2_with fail
          gi_region_with_o (refine hR3.mono ?_; rintro e W4 ⟨more, rfl, hF⟩)
          all_goals (
            have HF := Lib.hid hF
            clear hF hy hR3
            cases more with
            | true =>
              obtain ⟨he, hT1, hK1, hB1⟩ := HE.out
              obtain ⟨f1, _, f3⟩ := HF.out
              obtain ⟨hN, hN2, hk⟩ := HP.out
              have HR := Lib.hid (show J (numsA pv b (i + 1)) W4 ∧ Kb W4 g now wv pv sv nv ∧ Boxed W4 bK 59 (.pointer (some ⟨g, 0, none⟩)) ∧ Boxed W4 bB 4 (.bool b) from
                ⟨he ▸ f1 rfl, hT1.same (f3.low g hk.1 hT1.lt hk.2), (f3.low bK hN.1 hK1.lt hN.2).trans hK1, (f3.low bB hN2.1 hB1.lt hN2.2).trans hB1⟩)
              clear f1 f3 hT1 hK1 hB1 he hN hN2 hk
              gi_wp2_with fail
              go_roundw
              case rel => exact ⟨i + 1, by go_num, by omega, HR.out⟩
              case measure => simp [intOf] <;> omega
            | false =>
              gi_wp2_with fail
              refine bodyPost_ret (results_none rfl _ _ _) rfl ?_
              exact ⟨⟨_, rfl⟩, .inr ⟨_, trivial, HF.out.2.1 rfl⟩⟩)
        · skip
          have HR := Lib.hid (show J (numsA pv b (i + 1)) wr ∧ Kb wr g now wv pv sv nv ∧ Boxed wr bK 59 (.pointer (some ⟨g, 0, none⟩)) ∧ Boxed wr bB 4 (.bool b) by
            rw [numsA_succ, if_neg (by rw [hp]; simp [hb])]; exact ⟨hJ1, hT1, hK1, hB1⟩)
          rw [hp] at c1
          rw [hb] at cB
          clear hJ1 hT1 hK1 hB1 hp
          gi_wp2_with fail
          refine wpIn_wide.2 ?_
          go_quiet (fail)
          gi_wp2_with fail
          go_roundw
          case rel => exact ⟨i + 1, by go_num, by omega, HJd.out _ _ _ HR.out.1 (ChO.of_kept ((Kept.refl _ wr).drewN nq)), HR.out.2⟩
          case measure => simp [intOf] <;> omega
    · obtain rfl : i = 96 := by omega
      have HE := Lib.hid hJ1
      clear hJ1 hT1 hK1 hB1
      gi_wp2_with fail
      go_end0
      exact ⟨⟨_, rfl⟩, .inl ⟨_, rfl, HE.out⟩⟩
end Go.Proofs.YtlephnfepofbbaaGreatDoor

/-
  free: the smallest free descriptors.
-/
namespace Go.Proofs.YtlephnfepofbbaaGreatDoor
open Go.RowKit Go.Maps Go.ChangeMaps Go.Shelf

attribute [local go_sem] Oper.semAt_some

/-- While numbers are taken. -/
structure FrI (w : World) (pv : Nat → Option Addr) (need N : Nat) (pre : List Nat) (W : World) : Prop where
  col : ColR RI w (w.heap.size + 1) N pre W
  nd : Boxed W w.heap.size 3 (.int .i64 (need : Int))
  pre : ∃ R, pre ++ R = numsA pv false 96
theorem FrI.chR {w X Y : World} {pv : Nat → Option Addr} {need N M : Nat} {pre : List Nat} (h : FrI w pv need N pre X) (k : ChR M X Y) (hM : w.heap.size ≤ M) : FrI w pv need N pre Y := ⟨h.col.chR k hM, boxed_chR h.nd k, h.pre⟩
/-- What free answers. -/
def FreeOut (w : World) (pv : Nat → Option Addr) (need : Nat) (e : Ending) (w' : World) : Prop := Below w.heap.size w w' ∧
  ((need ≤ (numsA pv false 96).length ∧ ∃ v, e = .returned (.tuple #[v, .int .i64 0]) ∧ RI.own w' w.heap.size v ((numsA pv false 96).take need)) ∨ ((numsA pv false 96).length < need ∧ e = .returned (.tuple #[.slice none 0 0, .int .i64 112])))

theorem four_boxes (w : World) (t0 t1 t2 t3 : TypeId) (a0 a1 a2 a3 : Value) : ∃ V, V = (((w.alloc (.cells #[a0] t0)).alloc (.cells #[a1] t1)).alloc (.cells #[a2] t2)).alloc (.cells #[a3] t3) ∧ Kept (fun _ => False) w V ∧
    Boxed V w.heap.size t0 a0 ∧ Boxed V (w.heap.size + 1) t1 a1 ∧ Boxed V (w.heap.size + 2) t2 a2 ∧ Boxed V (w.heap.size + 3) t3 a3 ∧ V.heap.size = w.heap.size + 4 := by
  refine ⟨_, rfl, ((((Kept.refl _ w).alloc _).alloc _).alloc _).alloc _, ?_, ?_, ?_, ?_, by simp⟩
  · exact (Below.heap_alloc _ _ _ (by simp only [World.size_alloc]; omega)).trans ((Below.heap_alloc _ _ _ (by simp only [World.size_alloc]; omega)).trans ((Below.heap_alloc _ _ _ (by simp only [World.size_alloc]; omega)).trans (World.alloc_heap_new w _)))
  · have := World.alloc_heap_new (w.alloc (.cells #[a0] t0)) (.cells #[a1] t1)
    rw [World.size_alloc] at this
    exact (Below.heap_alloc _ _ _ (by simp only [World.size_alloc]; omega)).trans ((Below.heap_alloc _ _ _ (by simp only [World.size_alloc]; omega)).trans this)
  · have := World.alloc_heap_new ((w.alloc (.cells #[a0] t0)).alloc (.cells #[a1] t1)) (.cells #[a2] t2)
    rw [World.size_alloc, World.size_alloc] at this
    exact (Below.heap_alloc _ _ _ (by simp only [World.size_alloc]; omega)).trans this
  · have := World.alloc_heap_new (((w.alloc (.cells #[a0] t0)).alloc (.cells #[a1] t1)).alloc (.cells #[a2] t2)) (.cells #[a3] t3)
    rw [World.size_alloc, World.size_alloc, World.size_alloc] at this
    exact this

set_option maxRecDepth 100000 in
set_option maxHeartbeats 8000000 in
theorem free_any {w : World} {g now : Nat} {wv : Value} {pv : Nat → Option Addr} {sv nv : Value} (h : Kb w g now wv pv sv nv) (need : Nat) (hn0 : 1 ≤ need) (hn1 : need ≤ 1000) :
    Calls Tryz.prog 95 #[.pointer (some ⟨g, 0, none⟩), .int .i64 (need : Int)] w (FreeOut w pv need) := by
  have HR := Lib.hid h
  clear h
  refine (callsIn_wide (n := 4)).1 ?_
  refine callsIn_of_wp_marks Tryz.func95 rfl trivial ?_ rfl
  simp only [Tryz.ntmps95, List.size_toArray, List.length_cons, List.length_nil, Nat.reduceAdd, Nat.reduceSub, Array.replicate_succ, Array.replicate_zero, List.push_toArray, List.append_toArray, List.nil_append, List.cons_append]
  gi_wp2_with fail
  refine wpIn_wide.2 (wp_scope_straight ((wpIn_wide (n := 4)).1 ?_))
  gi_wp2
  refine wpIn_label ?_
  gi_wp2_with (refine ⟨trivial, ?_⟩; gi_at_call 51; refine (callsIn_wide.2 (numbers_call _ g false)).mono ?_; rintro e w1 ⟨rfl, rfl⟩)
  obtain ⟨V, hV, v0, v1, v2, v3, v4, v5⟩ := four_boxes w 3 34 59 4 (.int .i64 (need : Int)) (.slice none 0 0) (.pointer (some ⟨g, 0, none⟩)) (.bool false)
  rw [← hV]
  have hlt := HR.out.lt
  have hTV : Kb V g now wv pv sv nv := HR.out.same (v0.block g hlt (fun e => e))
  have hc0 : FrI w pv need V.heap.size [] V := ⟨⟨⟨_, v2, RowK.own_nil _ _⟩, v0.below (fun _ e => e.elim) (Nat.le_refl _)⟩, v1, ⟨_, rfl⟩⟩
  clear hV
  refine rangeFunc_o (n := 4) (by omega) (gf := 98) (lb := #[.pointer (some ⟨w.heap.size + 1 + 1, 0, none⟩), .pointer (some ⟨w.heap.size + 1 + 1 + 1, 0, none⟩)]) rfl (enters_of Tryz.func98 (by kernel_rfl) rfl)
    (encs := encI) TCe (fun i => i < w.heap.size ∨ i = w.heap.size + 2 ∨ i = w.heap.size + 3) (num_o 3 (by omega) false hTV _ _ v3 v4 TCe _ V.heap.size ⟨by omega, .inr (.inl rfl)⟩ ⟨by omega, .inr (.inr rfl)⟩ ⟨by omega, .inl hlt⟩) (fun _ => rfl)
    (fun pre W => FrI w pv need V.heap.size pre W ∧ pre.length < need) (fun c pre W => c = .exit 0 ∧ FrI w pv need V.heap.size pre W ∧ pre.length = need)
    (fun s X Y hi hc => ⟨hi.1.chR hc (by omega), hi.2⟩) (fun c s X Y hi hc => ⟨hi.1, hi.2.1.chR hc (by omega), hi.2.2⟩) ⟨hc0, by simp; omega⟩ ?round ?done ?stop
  case round =>
    rintro l pre x W hz ⟨hS, hpl⟩ ⟨R, hR⟩
    have HS := Lib.hid (And.intro hS (show ∃ R, (pre ++ [x]) ++ R = numsA pv false 96 from ⟨R, by rw [← hR]; simp⟩))
    clear hS hR hc0 hTV v0 v1 v2 v3 v4
    simp only [encI]
    gi_wp2_with fail
    refine ⟨KeepsFrom.refl _ _, KpO.refl _ _ _ _, fun W2 hc => ?_⟩
    have hF := HS.out.1.chR hc (by omega)
    obtain ⟨⟨v, hv, hrow⟩, hB⟩ := hF.col
    have cb := hv.cell
    have lb := hv.lt
    have cn := hF.nd.cell
    have ln := hF.nd.lt
    have hNw : V.heap.size ≤ W2.heap.size := by have := hc.size; omega
    have b3 : ∀ j, v.ownBlock = some j → V.heap.size ≤ j := fun j e => (RowK.own_lt hrow e).2
    have HB := Lib.hid (And.intro hB (And.intro hv (And.intro hrow (And.intro hF.nd b3))))
    have hplen : pre.length + 1 ≤ 1000 := by omega
    clear hB hv hrow hc b3 hF
    by_cases hlen : pre.length + 1 = need
    · have hq2 : (((pre.length : Nat) : Int) + 1 == (need : Int)) = true := by simp; omega
      have hq3 : decide ((((pre.length : Nat) : Int) + 1) = (need : Int)) = true := by simp; omega
      have HL := Lib.hid hlen
      clear hlen
      gi_wp2_with (gi_at_builtin; refine RowK.append_in (R := RI) rfl _ _ rfl V.heap.size v pre x rfl (RowK.own_same HB.out.2.2.1 fun j e => Below.heap_alloc _ _ _ (RowK.own_lt HB.out.2.2.1 e).1) rfl (fun _ => ⟨W2.heap.size, 0, rfl, by simp, RowK.lies_new (R := RI) W2 x 3⟩) (by omega) (by simp; omega) ?_; intro g' cap w1 O1 hg1; have i4 : Boxed w1 (w.heap.size + 1) 34 v := ((hg1.block _ (by simp; omega) (fun e => by have := HB.out.2.2.2.2 _ e.symm; omega)).trans (Below.heap_alloc W2 _ _ lb)).trans HB.out.2.1; have i5 : Boxed w1 w.heap.size 3 (.int .i64 (need : Int)) := ((hg1.block _ (by simp; omega) (fun e => by have := HB.out.2.2.2.2 _ e.symm; omega)).trans (Below.heap_alloc W2 _ _ ln)).trans HB.out.2.2.2.1; have d3 := i4.cell; have df := i4.frozen; have dl := i4.lt; have d5 := i5.cell; have l5 := i5.lt; have HG := Lib.hid (And.intro O1 (And.intro hg1 i5)); clear O1 hg1 i4 i5)
      obtain ⟨hB, hv, hrow, hnd, b3⟩ := HB.out
      obtain ⟨k1, k2, k3⟩ := ColR.step (Pr := fun i => i < w.heap.size ∨ i = w.heap.size + 2 ∨ i = w.heap.size + 3) hv hrow hB (by omega) (by omega) HG.out.2.1 HG.out.1 (fun i hi e => by omega)
      have hnd2 : Boxed (w1.setCell ⟨w.heap.size + 1, 0, none⟩ (.slice (some ⟨g', 0, none⟩) (pre.length + 1) cap)) w.heap.size 3 (.int .i64 (need : Int)) := (Below.heap_setCell _ _ _ _ (by show w.heap.size ≠ w.heap.size + 1; omega)).trans HG.out.2.2
      exact ⟨k2, k3, rfl, ⟨k1, hnd2, HS.out.2⟩, by simpa using HL.out⟩
    · have hq2 : (((pre.length : Nat) : Int) + 1 == (need : Int)) = false := by simp; omega
      have hq3 : decide ((((pre.length : Nat) : Int) + 1) = (need : Int)) = false := by simp; omega
      gi_wp2_with (gi_at_builtin; refine RowK.append_in (R := RI) rfl _ _ rfl V.heap.size v pre x rfl (RowK.own_same HB.out.2.2.1 fun j e => Below.heap_alloc _ _ _ (RowK.own_lt HB.out.2.2.1 e).1) rfl (fun _ => ⟨W2.heap.size, 0, rfl, by simp, RowK.lies_new (R := RI) W2 x 3⟩) (by omega) (by simp; omega) ?_; intro g' cap w1 O1 hg1; have i4 : Boxed w1 (w.heap.size + 1) 34 v := ((hg1.block _ (by simp; omega) (fun e => by have := HB.out.2.2.2.2 _ e.symm; omega)).trans (Below.heap_alloc W2 _ _ lb)).trans HB.out.2.1; have i5 : Boxed w1 w.heap.size 3 (.int .i64 (need : Int)) := ((hg1.block _ (by simp; omega) (fun e => by have := HB.out.2.2.2.2 _ e.symm; omega)).trans (Below.heap_alloc W2 _ _ ln)).trans HB.out.2.2.2.1; have d3 := i4.cell; have df := i4.frozen; have dl := i4.lt; have d5 := i5.cell; have l5 := i5.lt; have HG := Lib.hid (And.intro O1 (And.intro hg1 i5)); clear O1 hg1 i4 i5)
      obtain ⟨hB, hv, hrow, hnd, b3⟩ := HB.out
      obtain ⟨k1, k2, k3⟩ := ColR.step (Pr := fun i => i < w.heap.size ∨ i = w.heap.size + 2 ∨ i = w.heap.size + 3) hv hrow hB (by omega) (by omega) HG.out.2.1 HG.out.1 (fun i hi e => by omega)
      have hnd2 : Boxed (w1.setCell ⟨w.heap.size + 1, 0, none⟩ (.slice (some ⟨g', 0, none⟩) (pre.length + 1) cap)) w.heap.size 3 (.int .i64 (need : Int)) := (Below.heap_setCell _ _ _ _ (by show w.heap.size ≠ w.heap.size + 1; omega)).trans HG.out.2.2
      exact ⟨k2, k3, ⟨k1, hnd2, HS.out.2⟩, by simp; omega⟩
  case done =>
    rintro xs W rfl ⟨hS, hlen⟩ hD hz
    obtain ⟨⟨v, hv, hrow⟩, hB⟩ := hS.col
    obtain ⟨A, c, rfl, _⟩ := RowK.own_shows hrow
    obtain ⟨L, hL⟩ : ∃ L, L = (numsA pv false 96).length := ⟨_, rfl⟩
    rw [← hL] at hv hrow hlen
    have cb := hv.cell
    have lb := hv.lt
    have cn := hS.nd.cell
    have ln := hS.nd.lt
    have q1 : decide ((L : Int) < (need : Int)) = true := by simpa using hlen
    have q2 : (L : Int) < (need : Int) := by omega
    have HE := Lib.hid (And.intro hB (And.intro (hL ▸ hlen) hD))
    clear hv hrow hB hc0 hTV v0 v1 v2 v3 v4 hS hL hD
    gi_wp2_with fail
    rw [Exit.noGoto_ret]
    exact leaves_marks (w.heap.size + 1) [V.heap.size] W (by simp) (fun D hD' => by simp at hD'; subst hD'; exact ⟨by omega, HE.out.2.2⟩) (fun W' hc => ⟨_, results_tmp2 rfl _ _ _, below_chR HE.out.1 hc.toR (by omega), .inr ⟨HE.out.2.1, rfl⟩⟩)
  case stop =>
    rintro c pre W hp ⟨rfl, hS, hlen⟩ hD hz
    obtain ⟨⟨v, hv, hrow⟩, hB⟩ := hS.col
    obtain ⟨A, c, rfl, _⟩ := RowK.own_shows hrow
    obtain ⟨R, hR⟩ := hS.pre
    have HE := Lib.hid (show Below w.heap.size w W ∧ need ≤ (numsA pv false 96).length ∧ RI.own W V.heap.size (.slice A pre.length c) ((numsA pv false 96).take need) ∧ W.heap[V.heap.size]? = some (.deferred (some [])) from
      ⟨hB, by rw [← hR, List.length_append]; omega, by rw [← hR, ← hlen, List.take_left]; exact hrow, hD⟩)
    have cb := hv.cell
    have lb := hv.lt
    have cn := hS.nd.cell
    have ln := hS.nd.lt
    rw [hlen] at cb HE
    clear hv hrow hB hc0 hTV v0 v1 v2 v3 v4 hS hD hR hlen
    gi_wp2_with fail
    rw [Exit.noGoto_ret]
    exact leaves_marks (w.heap.size + 1) [V.heap.size] W (by simp) (fun D hD' => by simp at hD'; subst hD'; exact ⟨by omega, HE.out.2.2.2⟩) (fun W' hc => ⟨_, results_tmp2 rfl _ _ _, below_chR HE.out.1 hc.toR (by omega), .inl ⟨HE.out.2.1, _, rfl, RowK.own_more (RowK.own_chR HE.out.2.2.1 hc.toR) (by omega)⟩⟩)
end Go.Proofs.YtlephnfepofbbaaGreatDoor

/-
  A world in memory, whole: who owns which block.
-/
namespace Go.Proofs.YtlephnfepofbbaaGreatDoor
open Go.RowKit Go.Maps Go.ChangeMaps
open Classical

/-- Rows of pointers to wires. -/
def RP : RowK Tryz.prog Nat where
  e := 96
  s := 62
  n := 1
  bytes := 8
  zero := .pointer none
  enc := fun g => [.pointer (some ⟨g, 0, none⟩)]
  pos := by decide
  by_ := by decide
  len := fun _ => rfl
  one := fun x u hu => by
    simp at hu
    subst hu; rfl
  und := Tryz.underlying62
  info := by kernel_rfl
  zs := by decide

/-- Whose a block is. -/
inductive Tg where
  | top | kept | sig | row
  | wire (i : Nat)
  | wait (i : Nat)
  | ring (i : Nat) (k : Bool)
def Tg.idx : Tg → Option Nat
  | .wire i => some i
  | .wait i => some i
  | .ring i _ => some i
  | _ => none
/-- Where a world lies. -/
structure Lay where
  p : Nat
  kb : Nat
  sb : Nat
  wv : Value
  wa : Nat → Nat
  wt : Nat → Value
  rr : Nat → Bool → Nat
  own : Nat → Option Tg
def Lay.F (L : Lay) (b : Nat) : Prop := ∃ t, L.own b = some t
def Lay.G (L : Lay) (i : Nat) (k : Bool) (b : Nat) : Prop := L.own b = some (.ring i k)
def Lay.at_ (L : Lay) (q : Option (Nat × Bool)) : Option Addr := q.map fun y => ⟨L.wa y.1, off y.2, none⟩
/-- The layout has gone on: what it had stands where it stood. -/
structure Lay.ext (L L' : Lay) (n : Nat) : Prop where
  p : L'.p = L.p
  kb : L'.kb = L.kb
  sb : L'.sb = L.sb
  wa : ∀ i, i < n → L'.wa i = L.wa i
  wt : ∀ i, i < n → L'.wt i = L.wt i
theorem Lay.ext.refl (L : Lay) (n : Nat) : L.ext L n := ⟨rfl, rfl, rfl, fun _ _ => rfl, fun _ _ => rfl⟩
theorem Lay.ext.trans {L L' L'' : Lay} {n m : Nat} (h : L.ext L' n) (k : L'.ext L'' m) (hm : n ≤ m) : L.ext L'' n := ⟨k.p.trans h.p, k.kb.trans h.kb, k.sb.trans h.sb, fun i hi => (k.wa i (Nat.lt_of_lt_of_le hi hm)).trans (h.wa i hi), fun i hi => (k.wt i (Nat.lt_of_lt_of_le hi hm)).trans (h.wt i hi)⟩
/-- What waits at a wire. -/
def Waits (W : World) (L : Lay) (i : Nat) (ws : List Nat) : Prop := ∃ A c, L.wt i = .slice A ws.length c ∧ ws.length ≤ c ∧ (A = none → c = 0) ∧ RP.shows W A (ws.map L.wa) ∧ ∀ a, A = some a → L.own a.block = some (.wait i)

structure Wd (W : World) (B : Nat) (L : Lay) (S : Ws) : Prop where
  top : Blk W L.p 68 #[.pointer (some ⟨L.kb, 0, none⟩)]
  kept : Kb W L.kb S.now L.wv (fun fd => L.at_ (S.fds fd)) (.pointer (some ⟨L.sb, 0, none⟩)) (.pointer (L.at_ S.nt))
  sig : Tb W L.sb S.sg
  row : RP.own W B L.wv ((List.range S.ws.length).map L.wa)
  wire : ∀ (i : Nat) (x : Wi), S.ws[i]? = some x → Wr W B (L.wa i) i (L.rr i) (L.G i) (L.wt i) x
  wait : ∀ (i : Nat) (x : Wi), S.ws[i]? = some x → Waits W L i x.wait
  otop : L.own L.p = some .top
  okept : L.own L.kb = some .kept
  osig : L.own L.sb = some .sig
  orow : ∀ b, L.wv.ownBlock = some b → L.own b = some .row
  owire : ∀ i, i < S.ws.length → L.own (L.wa i) = some (.wire i)
  lt : ∀ b t, L.own b = some t → B ≤ b ∧ b < W.heap.size
  hs : B ≤ W.heap.size
  fdok : ∀ fd i k, S.fds fd = some (i, k) → i < S.ws.length
  ntok : ∀ i k, S.nt = some (i, k) → i < S.ws.length
  wtok : ∀ (i : Nat) (x : Wi), S.ws[i]? = some x → ∀ j ∈ x.wait, j < S.ws.length
  oi : ∀ b t i, L.own b = some t → t.idx = some i → i < S.ws.length

section
variable {W W' : World} {B : Nat} {L L' : Lay} {S : Ws}
theorem Lay.F_of {L : Lay} {b : Nat} {t : Tg} (h : L.own b = some t) : L.F b := ⟨t, h⟩
theorem Waits.same {i : Nat} {ws : List Nat} (h : Waits W L i ws) (e : ∀ b, L.own b = some (.wait i) → W'.heap[b]? = W.heap[b]?) (hs : W.heap.size ≤ W'.heap.size) : Waits W' L i ws := by
  obtain ⟨A, c, h1, h2, h3, h4, h5⟩ := h
  refine ⟨A, c, h1, h2, h3, RowK.shows_same h4 (fun g hg => ?_) hs, h5⟩
  cases A with
  | none => cases hg
  | some a => cases hg; exact e _ (h5 a rfl)
theorem Wd.same (h : Wd W B L S) (e : ∀ b, L.F b → W'.heap[b]? = W.heap[b]?) (hs : W.heap.size ≤ W'.heap.size) : Wd W' B L S :=
  ⟨h.top.same (e _ ⟨_, h.otop⟩), h.kept.same (e _ ⟨_, h.okept⟩), h.sig.same (e _ ⟨_, h.osig⟩), RowK.own_same h.row (fun k hk => e k ⟨_, h.orow k hk⟩),
   fun i x hx => (h.wire i x hx).same (fun b hb => e b (by
     rcases hb with rfl | ⟨k, hk⟩
     · exact ⟨_, h.owire i (List.getElem?_eq_some_iff.1 hx).1⟩
     · exact ⟨_, hk⟩)) (Nat.le_trans h.hs hs),
   fun i x hx => (h.wait i x hx).same (fun b hb => e b ⟨_, hb⟩) hs,
   h.otop, h.okept, h.osig, h.orow, h.owire, fun b t hb => ⟨(h.lt b t hb).1, Nat.lt_of_lt_of_le (h.lt b t hb).2 hs⟩, Nat.le_trans h.hs hs, h.fdok, h.ntok, h.wtok, h.oi⟩
theorem Wd.ltF (h : Wd W B L S) {b : Nat} (hb : L.F b) : b < W.heap.size ∧ B ≤ b := by obtain ⟨t, ht⟩ := hb; exact ⟨(h.lt b t ht).2, (h.lt b t ht).1⟩
theorem Wd.keeps {G : Nat → Prop} (h : Wd W B L S) (q : Kept G W W') (hf : ∀ b, L.F b → ¬ G b) : Wd W' B L S := h.same (fun b hb => q.block b (h.ltF hb).1 (hf b hb)) q.size
theorem Wd.below (h : Wd W B L S) (hb : Below W.heap.size W W') : Wd W' B L S := h.same (fun b hb' => hb.block b (h.ltF hb').1) hb.size
theorem Wd.drewN (h : Wd W B L S) (q : Nat) : Wd (W.drewN q) B L S := h.same (fun _ _ => rfl) (Nat.le_refl _)
theorem Wr.congr {g n : Nat} {r : Bool → Nat} {F F' : Bool → Nat → Prop} {v : Value} {x : Wi} (h : Wr W B g n r F v x) (e : ∀ k b, F k b ↔ F' k b) : Wr W B g n r F' v x := by
  have : F = F' := by funext k b; exact propext (e k b)
  subst this; exact h

/-- Whose a block is, once a wire's rings have moved. -/
noncomputable def Lay.ownR (L : Lay) (i : Nat) (F' : Bool → Nat → Prop) (b : Nat) : Option Tg :=
  if F' false b then some (.ring i false) else if F' true b then some (.ring i true) else if L.G i false b ∨ L.G i true b then none else L.own b
noncomputable def Lay.setR (L : Lay) (i : Nat) (F' : Bool → Nat → Prop) : Lay := { L with own := L.ownR i F' }

/-- Of one wire the block and the rings turned. -/
theorem Wd.wire1 (h : Wd W B L S) {i : Nat} {x y : Wi} (hx : S.ws[i]? = some x) {F' : Bool → Nat → Prop} (hw : Wr W' B (L.wa i) i (L.rr i) F' (L.wt i) y) (m : Mv W W' (FW (L.wa i) (L.G i)) (FW (L.wa i) F')) (hwt : y.wait = x.wait) :
    ∃ L', Wd W' B L' (S.setW i y) ∧ L.ext L' S.ws.length ∧ Mv W W' L.F L'.F ∧ ∀ b, L'.F b → L.F b ∨ FW (L.wa i) F' b := by
  have hi : i < S.ws.length := (List.getElem?_eq_some_iff.1 hx).1
  have hgw := h.owire i hi
  have hsz := m.k.size
  -- a block of the new rings was theirs, or is new
  have hF : ∀ k b, F' k b → (L.G i false b ∨ L.G i true b) ∨ W.heap.size ≤ b := fun k b hb => by
    rcases m.o b (.inr ⟨k, hb⟩) with (rfl | ⟨k', hk⟩) | h1
    · exact absurd hb (hw.own k)
    · cases k' with
      | false => exact .inl (.inl hk)
      | true => exact .inl (.inr hk)
    · exact .inr h1
  have hne : ∀ b t, L.own b = some t → (∀ k, t ≠ .ring i k) → L.ownR i F' b = some t := fun b t hb ht => by
    have hn : ¬ (L.G i false b ∨ L.G i true b) := by
      rintro (e | e)
      · exact ht false (Option.some.inj (hb.symm.trans e))
      · exact ht true (Option.some.inj (hb.symm.trans e))
    have hk : ∀ k, ¬ F' k b := fun k e => by
      rcases hF k b e with h1 | h1
      · exact hn h1
      · have := (h.lt b t hb).2; omega
    unfold Lay.ownR
    rw [if_neg (hk false), if_neg (hk true), if_neg hn]
    exact hb
  have hin : ∀ b t, L.ownR i F' b = some t → (∃ k, t = .ring i k ∧ F' k b) ∨ (L.own b = some t ∧ ∀ k, t ≠ .ring i k) := fun b t hb => by
    unfold Lay.ownR at hb
    split at hb
    · cases hb; exact .inl ⟨false, rfl, by assumption⟩
    · split at hb
      · cases hb; exact .inl ⟨true, rfl, by assumption⟩
      · split at hb
        · cases hb
        · rename_i hn
          refine .inr ⟨hb, fun k e => hn ?_⟩
          subst e
          cases k with
          | false => exact .inl hb
          | true => exact .inr hb
  have hri : ∀ k b, F' k b ↔ (L.setR i F').G i k b := fun k b => by
    constructor
    · intro hb
      show L.ownR i F' b = some (.ring i k)
      unfold Lay.ownR
      cases k with
      | false => rw [if_pos hb]
      | true => rw [if_neg (fun e => hw.sep false b e hb), if_pos hb]
    · intro hb
      rcases hin b _ hb with ⟨k', e, hk⟩ | ⟨_, e⟩
      · cases e; exact hk
      · exact absurd rfl (e k)
  have hrj : ∀ j k b, j ≠ i → (L.G j k b ↔ (L.setR i F').G j k b) := fun j k b hj => by
    constructor
    · intro hb
      exact hne b _ hb (fun k' e => hj (by cases e; rfl))
    · intro hb
      rcases hin b _ hb with ⟨k', e, _⟩ | ⟨e, _⟩
      · cases e; exact absurd rfl hj
      · exact e
  have hout : ∀ b t, L.own b = some t → (∀ k, t ≠ .ring i k) → t ≠ .wire i → W'.heap[b]? = W.heap[b]? := fun b t hb h1 h2 => m.k.block b (h.lt b t hb).2 (by
    rintro (rfl | ⟨k, hk⟩)
    · rw [hgw] at hb; cases hb; exact h2 rfl
    · have e : some (Tg.ring i k) = some t := (show L.own b = some (.ring i k) from hk).symm.trans hb
      cases e; exact h1 k rfl)
  refine ⟨L.setR i F', ⟨h.top.same (hout _ _ h.otop (fun k e => by cases e) (fun e => by cases e)), h.kept.same (hout _ _ h.okept (fun k e => by cases e) (fun e => by cases e)), h.sig.same (hout _ _ h.osig (fun k e => by cases e) (fun e => by cases e)), ?_, ?_, ?_, hne _ _ h.otop (fun k e => by cases e), hne _ _ h.okept (fun k e => by cases e), hne _ _ h.osig (fun k e => by cases e), fun b hb => hne _ _ (h.orow b hb) (fun k e => by cases e), ?_, ?_, Nat.le_trans h.hs hsz, ?_, ?_, ?_, ?_⟩, ⟨rfl, rfl, rfl, fun _ _ => rfl, fun _ _ => rfl⟩, ⟨?_, ?_⟩, ?_⟩
  · have e : (S.setW i y).ws.length = S.ws.length := by unfold Ws.setW; simp
    rw [e]
    exact RowK.own_same h.row fun k hk => hout _ _ (h.orow k hk) (fun k e => by cases e) (fun e => by cases e)
  · intro j z hz
    rcases Ws.setW_get hz with ⟨rfl, rfl⟩ | ⟨hne', hz'⟩
    · exact hw.congr hri
    · have hj := h.owire j (List.getElem?_eq_some_iff.1 hz').1
      refine ((h.wire j z hz').same (fun b hb => ?_) (Nat.le_trans h.hs hsz)).congr (fun k b => hrj j k b (fun e => hne' e.symm))
      rcases hb with rfl | ⟨k, hk⟩
      · exact hout _ _ hj (fun k e => by cases e) (fun e => hne' (by cases e; rfl))
      · exact hout _ _ hk (fun k' e => hne' (by cases e; rfl)) (fun e => by cases e)
  · intro j z hz
    have hold : Waits W L j z.wait := by
      rcases Ws.setW_get hz with ⟨rfl, rfl⟩ | ⟨_, hz'⟩
      · rw [hwt]; exact h.wait _ _ hx
      · exact h.wait j z hz'
    obtain ⟨A, c, e1, e2, e3, e4, e5⟩ := hold
    refine ⟨A, c, e1, e2, e3, RowK.shows_same e4 (fun g hg => ?_) hsz, fun a ha => hne _ _ (e5 a ha) (fun k e => by cases e)⟩
    cases A with
    | none => cases hg
    | some a => cases hg; exact hout _ _ (e5 a rfl) (fun k e => by cases e) (fun e => by cases e)
  · intro j hj
    have hj' : j < S.ws.length := by unfold Ws.setW at hj; simpa using hj
    exact hne _ _ (h.owire j hj') (fun k e => by cases e)
  · intro b t hb
    rcases hin b t hb with ⟨k, rfl, hk⟩ | ⟨hb', _⟩
    · have := hw.lt (.inr ⟨k, hk⟩); exact ⟨this.2, this.1⟩
    · exact ⟨(h.lt b t hb').1, Nat.lt_of_lt_of_le (h.lt b t hb').2 hsz⟩
  · intro fd j k hf
    have := h.fdok fd j k hf
    unfold Ws.setW; simpa using this
  · intro j k hf
    have := h.ntok j k hf
    unfold Ws.setW; simpa using this
  · intro j z hz a ha
    have e : (S.setW i y).ws.length = S.ws.length := by unfold Ws.setW; simp
    rw [e]
    rcases Ws.setW_get hz with ⟨rfl, rfl⟩ | ⟨_, hz'⟩
    · rw [hwt] at ha; exact h.wtok _ _ hx a ha
    · exact h.wtok j z hz' a ha
  · intro b t j hb hj
    have e : (S.setW i y).ws.length = S.ws.length := by unfold Ws.setW; simp
    rw [e]
    rcases hin b t hb with ⟨k, rfl, _⟩ | ⟨hb', _⟩
    · cases hj; exact hi
    · exact h.oi b t j hb' hj
  · refine m.k.mono fun b _ hb => ?_
    rcases hb with rfl | ⟨k, hk⟩
    · exact ⟨_, hgw⟩
    · exact ⟨_, hk⟩
  · rintro b ⟨t, ht⟩
    rcases hin b t ht with ⟨k, rfl, hk⟩ | ⟨hb', _⟩
    · rcases hF k b hk with (h1 | h1) | h1
      · exact .inl ⟨_, h1⟩
      · exact .inl ⟨_, h1⟩
      · exact .inr h1
    · exact .inl ⟨_, hb'⟩
  · rintro b ⟨t, ht⟩
    rcases hin b t ht with ⟨k, rfl, hk⟩ | ⟨hb', _⟩
    · exact .inr (.inr ⟨k, hk⟩)
    · exact .inl ⟨_, hb'⟩
end
end Go.Proofs.YtlephnfepofbbaaGreatDoor

/-
  A new wire.
-/
namespace Go.Proofs.YtlephnfepofbbaaGreatDoor
open Go.RowKit Go.Maps Go.ChangeMaps

theorem Rg.more {w : World} {B B' r cap inn out : Nat} {F : Nat → Prop} {bs : List Int} (h : Rg w B r F cap bs inn out) (hB : B' ≤ B) : Rg w B' r F cap bs inn out := by
  obtain ⟨cb, v, ps, h1, h2, h3, h4, h5⟩ := h
  exact ⟨cb, v, ps, h1, Nat.le_trans hB h2, Nat.le_trans hB h3, ⟨h4.blk, h4.row.mono hB, Nat.le_trans hB h4.hB, h4.lies, h4.le, h4.big, h4.fit, h4.hin, h4.sm⟩, h5⟩

/-- A wire whose first q ends are laid. -/
def cellsN (g n q : Nat) (p0 p1 : Value) : Array Value := #[.int .i64 (n : Int), (if 0 < q then .pointer (some ⟨g, 0, none⟩) else .pointer none), .int .i64 0, .int .i64 0, .bool false, p0, .int .u64 0, .int .u64 0,
  (if 1 < q then .pointer (some ⟨g, 0, none⟩) else .pointer none), .int .i64 (if 1 < q then 1 else 0), .int .i64 0, .bool false, p1, .int .u64 0, .int .u64 0, .bool false, .int .i64 0, .slice none 0 0]
/-- The ring of an end that is laid, or there is none. -/
def RgN (w : World) (g cap : Nat) (c : Bool) (p : Value) (r : Nat) (F : Nat → Prop) : Prop := p = rp c r ∧ (c = true → Rg w (g + 1) r F cap [] 0 0) ∧ (c = false → ∀ b, ¬ F b)
section
variable {w w' : World} {g cap : Nat} {c : Bool} {p : Value} {r : Nat} {F : Nat → Prop}
theorem RgN.lt (h : RgN w g cap c p r F) {b : Nat} (hb : F b) : b < w.heap.size ∧ g < b := by
  cases c with
  | true => have := (h.2.1 rfl).lt hb; omega
  | false => exact absurd hb (h.2.2 rfl b)
theorem RgN.same (h : RgN w g cap c p r F) (e : ∀ b, F b → w'.heap[b]? = w.heap[b]?) (hs : w.heap.size ≤ w'.heap.size) : RgN w' g cap c p r F :=
  ⟨h.1, fun hc => (h.2.1 hc).same e (Nat.le_trans (h.2.1 hc).base hs), h.2.2⟩
theorem RgN.none (w : World) (g cap : Nat) : RgN w g cap false (.pointer none) 0 (fun _ => False) := ⟨rfl, (fun e => by cases e), fun _ _ e => e⟩
end
/-- Behind q rounds. -/
def NwI (w : World) (n cap readers q : Nat) (W : World) : Prop := ∃ (p0 p1 : Value) (r0 r1 : Nat) (F0 F1 : Nat → Prop), Blk W w.heap.size 104 (cellsN w.heap.size n q p0 p1) ∧
  RgN W w.heap.size cap (decide (0 < q) && decide (0 < readers)) p0 r0 F0 ∧ RgN W w.heap.size cap (decide (1 < q) && decide (1 < readers)) p1 r1 F1 ∧ (∀ b, F0 b → ¬ F1 b) ∧ Below w.heap.size w W

section
variable {w W W2 : World} {n cap readers : Nat}
/-- The world in which an end's place is told. -/
def nwM (W : World) (g o : Nat) (i : Int) : World := (W.setCell ⟨g, o, none⟩ (.pointer (some ⟨g, 0, none⟩))).setCell ⟨g, o + 1, none⟩ (.int .i64 i)
theorem nwM_other (W : World) (g o : Nat) (i : Int) {b : Nat} (hb : b ≠ g) : (nwM W g o i).heap[b]? = W.heap[b]? := (Below.heap_setCell _ _ _ _ hb).trans (Below.heap_setCell _ _ _ _ hb)
theorem nwM_size (W : World) (g o : Nat) (i : Int) : (nwM W g o i).heap.size = W.heap.size := by simp [nwM, World.setCell]
theorem nwM_below {w W : World} {B : Nat} (h : Below B w W) (g o : Nat) (i : Int) (hg : B ≤ g) : Below B w (nwM W g o i) := (h.setCell (p := ⟨g, o, none⟩) hg _).setCell (p := ⟨g, o + 1, none⟩) hg _
theorem nw0_no (h : NwI w n cap readers 0 W) (hr : ¬ 0 < readers) : NwI w n cap readers 1 (nwM W w.heap.size 1 0) := by
  obtain ⟨p0, p1, r0, r1, F0, F1, hb, h0, h1, hs, hB⟩ := h
  have hn : ∀ b, F0 b ∨ F1 b → b ≠ w.heap.size := fun b hb e => by
    rcases hb with hb | hb
    · have := (h0.lt hb).2; omega
    · have := (h1.lt hb).2; omega
  refine ⟨p0, p1, r0, r1, F0, F1, ((hb.set_ 1 _).set_ 2 (.int .i64 0)), ?_, h1.same (fun b hb => nwM_other _ _ _ _ (hn b (.inr hb))) (by rw [nwM_size]; exact Nat.le_refl _), hs, nwM_below hB _ _ _ (Nat.le_refl _)⟩
  rw [show (decide (0 < 1) && decide (0 < readers)) = (decide (0 < 0) && decide (0 < readers)) from by simp [hr]]
  exact h0.same (fun b hb => nwM_other _ _ _ _ (hn b (.inl hb))) (by rw [nwM_size]; exact Nat.le_refl _)
theorem nw1_no (h : NwI w n cap readers 1 W) (hr : ¬ 1 < readers) : NwI w n cap readers 2 (nwM W w.heap.size 8 1) := by
  obtain ⟨p0, p1, r0, r1, F0, F1, hb, h0, h1, hs, hB⟩ := h
  have hn : ∀ b, F0 b ∨ F1 b → b ≠ w.heap.size := fun b hb e => by
    rcases hb with hb | hb
    · have := (h0.lt hb).2; omega
    · have := (h1.lt hb).2; omega
  refine ⟨p0, p1, r0, r1, F0, F1, ((hb.set_ 8 _).set_ 9 (.int .i64 1)), h0.same (fun b hb => nwM_other _ _ _ _ (hn b (.inl hb))) (by rw [nwM_size]; exact Nat.le_refl _), ?_, hs, nwM_below hB _ _ _ (Nat.le_refl _)⟩
  rw [show (decide (1 < 2) && decide (1 < readers)) = (decide (1 < 1) && decide (1 < readers)) from by simp [hr]]
  exact h1.same (fun b hb => nwM_other _ _ _ _ (hn b (.inr hb))) (by rw [nwM_size]; exact Nat.le_refl _)
theorem nw0_yes (h : NwI w n cap readers 0 W) (hr : 0 < readers) {r : Nat} {F : Nat → Prop} (hg : Rg W2 (nwM W w.heap.size 1 0).heap.size r F cap [] 0 0) (hb2 : Below (nwM W w.heap.size 1 0).heap.size (nwM W w.heap.size 1 0) W2) :
    NwI w n cap readers 1 (W2.setCell ⟨w.heap.size, 5, none⟩ (.pointer (some ⟨r, 0, none⟩))) := by
  obtain ⟨p0, p1, r0, r1, F0, F1, hb, h0, h1, hs, hB⟩ := h
  rw [nwM_size] at hg hb2
  have lg := hb.lt
  have hb' : Blk W2 w.heap.size 104 (cellsN w.heap.size n 1 p0 p1) := Blk.same (w := nwM W w.heap.size 1 0) ((hb.set_ 1 _).set_ 2 (.int .i64 0)) (hb2.block _ lg)
  have hFg : ∀ b, F b → b ≠ w.heap.size := fun b hb e => by have := (hg.lt hb).2; omega
  have h1n : ∀ b, ¬ F1 b := h1.2.2 rfl
  refine ⟨.pointer (some ⟨r, 0, none⟩), p1, r, r1, F, F1, hb'.set_ 5 _, ?_, ?_, fun b _ e => h1n b e, ?_⟩
  · rw [show (decide (0 < 1) && decide (0 < readers)) = true from by simp [hr]]
    exact ⟨rfl, fun _ => (hg.more (by omega)).same (fun b hb => Below.heap_setCell _ _ _ _ (hFg b hb)) (by have := hb2.size; simp [World.setCell]; rw [nwM_size] at this; omega), fun e => by cases e⟩
  · exact h1.same (fun b hb => absurd hb (h1n b)) (by have := hb2.size; simp [World.setCell]; rw [nwM_size] at this; omega)
  · exact ((nwM_below hB _ _ _ (Nat.le_refl _)).trans (hb2.mono (Nat.le_of_lt lg))).setCell (p := ⟨w.heap.size, 5, none⟩) (Nat.le_refl _) _
theorem nw1_yes (h : NwI w n cap readers 1 W) (hr : 1 < readers) {r : Nat} {F : Nat → Prop} (hg : Rg W2 (nwM W w.heap.size 8 1).heap.size r F cap [] 0 0) (hb2 : Below (nwM W w.heap.size 8 1).heap.size (nwM W w.heap.size 8 1) W2) :
    NwI w n cap readers 2 (W2.setCell ⟨w.heap.size, 12, none⟩ (.pointer (some ⟨r, 0, none⟩))) := by
  obtain ⟨p0, p1, r0, r1, F0, F1, hb, h0, h1, hs, hB⟩ := h
  rw [nwM_size] at hg hb2
  have lg := hb.lt
  have hb' : Blk W2 w.heap.size 104 (cellsN w.heap.size n 2 p0 p1) := Blk.same (w := nwM W w.heap.size 8 1) ((hb.set_ 8 _).set_ 9 (.int .i64 1)) (hb2.block _ lg)
  have hFg : ∀ b, F b → b ≠ w.heap.size := fun b hb e => by have := (hg.lt hb).2; omega
  refine ⟨p0, .pointer (some ⟨r, 0, none⟩), r0, r, F0, F, hb'.set_ 12 _, ?_, ?_, fun b e e2 => by have := (h0.lt e).1; have := (hg.lt e2).2; omega, ?_⟩
  · refine h0.same (fun b hb => ?_) (by have := hb2.size; simp [World.setCell]; rw [nwM_size] at this; omega)
    have h2 := h0.lt hb
    rw [Below.heap_setCell _ _ _ _ (show b ≠ w.heap.size by omega), hb2.block b h2.1, nwM_other _ _ _ _ (show b ≠ w.heap.size by omega)]
  · rw [show (decide (1 < 2) && decide (1 < readers)) = true from by simp [hr]]
    exact ⟨rfl, fun _ => (hg.more (by omega)).same (fun b hb => Below.heap_setCell _ _ _ _ (hFg b hb)) (by have := hb2.size; simp [World.setCell]; rw [nwM_size] at this; omega), fun e => by cases e⟩
  · exact ((nwM_below hB _ _ _ (Nat.le_refl _)).trans (hb2.mono (Nat.le_of_lt lg))).setCell (p := ⟨w.heap.size, 12, none⟩) (Nat.le_refl _) _
theorem nw_done (h : NwI w n cap readers 2 W) (hr : readers ≤ 2) : (∃ r F, Wr W w.heap.size w.heap.size n r F (.slice none 0 0) (Wi.new cap readers)) ∧ Below w.heap.size w W := by
  obtain ⟨p0, p1, r0, r1, F0, F1, hb, h0, h1, hs, hB⟩ := h
  refine ⟨⟨fun k => if k then r1 else r0, fun k => if k then F1 else F0, ⟨?_, Nat.le_refl _, hB.size, ?_, ?_, ?_, ?_⟩⟩, hB⟩
  · have e0 := h0.1
    have e1 := h1.1
    rw [show (decide (0 < 2) && decide (0 < readers)) = decide (0 < readers) from by simp] at e0
    rw [show (decide (1 < 2) && decide (1 < readers)) = decide (1 < readers) from by simp] at e1
    subst e0; subst e1
    exact hb
  · intro k hk
    cases k with
    | false => exact ⟨0, (h0.2.1 (by simpa [Wi.new, En.new] using hk)).more (Nat.le_succ _)⟩
    | true => exact ⟨0, (h1.2.1 (by simpa [Wi.new, En.new] using hk)).more (Nat.le_succ _)⟩
  · intro k hk b hb
    cases k with
    | false => exact h0.2.2 (by simpa [Wi.new, En.new] using hk) b hb
    | true => exact h1.2.2 (by simpa [Wi.new, En.new] using hk) b hb
  · intro k b h1 h2
    cases k with
    | false => exact hs b h1 h2
    | true => exact hs b h2 h1
  · intro k hk
    cases k with
    | false => have := (h0.lt hk).2; omega
    | true => have := (h1.lt hk).2; omega
end

set_option maxRecDepth 100000 in
set_option maxHeartbeats 4000000 in
theorem newWire_any (w : World) (n cap readers : Nat) (hc : cap ≤ 65536) (hr : readers ≤ 2) : Calls Tryz.prog 120 #[.int .i64 (n : Int), .int .i64 (cap : Int), .int .i64 (readers : Int)] w fun e w' =>
    e = .returned (.pointer (some ⟨w.heap.size, 0, none⟩)) ∧ (∃ r F, Wr w' w.heap.size w.heap.size n r F (.slice none 0 0) (Wi.new cap readers)) ∧ Below w.heap.size w w' := by
  have HN := Lib.hid (fun W : World => new_yes W cap hc)
  have hb0 := Blk.new w 104 (cellsN w.heap.size n 0 (.pointer none) (.pointer none))
  have H0 := Lib.hid (show NwI w n cap readers 0 (w.alloc (.cells (cellsN w.heap.size n 0 (.pointer none) (.pointer none)) 104)) from
    ⟨_, _, 0, 0, fun _ => False, fun _ => False, hb0, RgN.none _ _ _, RgN.none _ _ _, fun _ e => e.elim, (Below.refl _ w).alloc (Nat.le_refl _) _⟩)
  clear hb0
  go_enter Tryz.func120, Tryz.ntmps120
  go_wp2_with fail
  go_loopw [13] (fun v wr => ∃ q : Nat, v = .int .i64 (q : Int) ∧ q ≤ 2 ∧ NwI w n cap readers q wr) (fun v _ => 2 - (intOf v).toNat)
  case atStart => exact ⟨0, rfl, Nat.zero_le _, H0.out⟩
  case round =>
    obtain ⟨q, rfl, hq, p0, p1, r0, r1, F0, F1, hb, h0, h1, hs, hB⟩ := hrel
    have lg := hb.lt
    rcases (by omega : q = 0 ∨ q = 1 ∨ q = 2) with rfl | rfl | rfl
    · have k1 := hb.cell 1
      have k2 := hb.cell 2
      have k5 := hb.cell 5
      simp [cellsN] at k1 k2 k5
      have f1 := hb.frozen 1
      have f2 := hb.frozen 2
      have HI := Lib.hid (show NwI w n cap readers 0 wr from ⟨p0, p1, r0, r1, F0, F1, hb, h0, h1, hs, hB⟩)
      by_cases hrd : 0 < readers
      · have q1 : (0 : Int) < (readers : Int) := by omega
        have HB := Lib.hid (show Blk (nwM wr w.heap.size 1 0) w.heap.size 104 (cellsN w.heap.size n 1 p0 p1) from (hb.set_ 1 _).set_ 2 (.int .i64 0))
        clear hb h0 h1 hs hB
        go_wp2_with fail
        refine (HN.out _).mono ?_
        rintro e W2 ⟨r, F, rfl, hg, hb2, _⟩
        have HE := Lib.hid (nw0_yes HI.out hrd hg hb2)
        have k5' : W2.cell? ⟨w.heap.size, 5, none⟩ = some p0 := by rw [World.cell?_of_block (hb2.block _ (by simpa [World.setCell] using lg))]; exact (HB.out.cell 5)
        have f5' : W2.frozen? ⟨w.heap.size, 5, none⟩ = false := Blk.frozen (Blk.same HB.out (hb2.block _ (by simpa [World.setCell] using lg))) 5
        clear hg hb2
        go_wp2_with fail
        go_roundw
        case rel => exact ⟨1, by go_num, by omega, HE.out⟩
        case measure => simp [intOf] <;> omega
      · have q1 : ¬ (0 : Int) < (readers : Int) := by omega
        have HE := Lib.hid (nw0_no HI.out hrd)
        clear hb h0 h1 hs hB
        go_wp2_with fail
        go_roundw
        case rel => exact ⟨1, by go_num, by omega, HE.out⟩
        case measure => simp [intOf] <;> omega
    · have k1 := hb.cell 8
      have k2 := hb.cell 9
      have k5 := hb.cell 12
      simp [cellsN] at k1 k2 k5
      have f1 := hb.frozen 8
      have f2 := hb.frozen 9
      have HI := Lib.hid (show NwI w n cap readers 1 wr from ⟨p0, p1, r0, r1, F0, F1, hb, h0, h1, hs, hB⟩)
      by_cases hrd : 1 < readers
      · have q1 : (1 : Int) < (readers : Int) := by omega
        have HB := Lib.hid (show Blk (nwM wr w.heap.size 8 1) w.heap.size 104 (cellsN w.heap.size n 2 p0 p1) from (hb.set_ 8 _).set_ 9 (.int .i64 1))
        clear hb h0 h1 hs hB
        go_wp2_with fail
        refine (HN.out _).mono ?_
        rintro e W2 ⟨r, F, rfl, hg, hb2, _⟩
        have HE := Lib.hid (nw1_yes HI.out hrd hg hb2)
        have k5' : W2.cell? ⟨w.heap.size, 12, none⟩ = some p1 := by rw [World.cell?_of_block (hb2.block _ (by simpa [World.setCell] using lg))]; exact (HB.out.cell 12)
        have f5' : W2.frozen? ⟨w.heap.size, 12, none⟩ = false := Blk.frozen (Blk.same HB.out (hb2.block _ (by simpa [World.setCell] using lg))) 12
        clear hg hb2
        go_wp2_with fail
        go_roundw
        case rel => exact ⟨2, by go_num, by omega, HE.out⟩
        case measure => simp [intOf] <;> omega
      · have q1 : ¬ (1 : Int) < (readers : Int) := by omega
        have HE := Lib.hid (nw1_no HI.out hrd)
        clear hb h0 h1 hs hB
        go_wp2_with fail
        go_roundw
        case rel => exact ⟨2, by go_num, by omega, HE.out⟩
        case measure => simp [intOf] <;> omega
    · have HI := Lib.hid (nw_done (show NwI w n cap readers 2 wr from ⟨p0, p1, r0, r1, F0, F1, hb, h0, h1, hs, hB⟩) hr)
      clear hb h0 h1 hs hB
      go_wp2_with fail
      go_ret
      exact ⟨rfl, HI.out⟩
end Go.Proofs.YtlephnfepofbbaaGreatDoor

/-
  A world with one wire more.
-/
namespace Go.Proofs.YtlephnfepofbbaaGreatDoor
open Go.RowKit Go.Maps Go.ChangeMaps
open Classical

def Ws.addW (s : Ws) (x : Wi) : Ws := { s with ws := s.ws ++ [x] }
theorem Ws.addW_len (s : Ws) (x : Wi) : (s.addW x).ws.length = s.ws.length + 1 := by simp [Ws.addW]
theorem Ws.addW_get {s : Ws} {x y : Wi} {i : Nat} (h : (s.addW x).ws[i]? = some y) : (i = s.ws.length ∧ y = x) ∨ (i < s.ws.length ∧ s.ws[i]? = some y) := by
  unfold Ws.addW at h
  simp only [List.getElem?_append] at h
  split at h
  · exact .inr ⟨by assumption, h⟩
  · have h1 := (List.getElem?_eq_some_iff.1 h).1
    simp at h1
    have h2 : i = s.ws.length := by omega
    subst h2
    simp at h
    exact .inl ⟨rfl, h.symm⟩
theorem Ws.addW_last (s : Ws) (x : Wi) : (s.addW x).ws[s.ws.length]? = some x := by simp [Ws.addW]
theorem Ws.addW_old {s : Ws} {x y : Wi} {i : Nat} (h : s.ws[i]? = some y) : (s.addW x).ws[i]? = some y := by
  have := (List.getElem?_eq_some_iff.1 h).1
  simp [Ws.addW, List.getElem?_append_left this, h]
theorem Ws.le_addW {s : Ws} {x : Wi} {N : Nat} (h : s.le N) (hx : x.le N) : (s.addW x).le N := fun i y hy => by
  rcases Ws.addW_get hy with ⟨_, rfl⟩ | ⟨_, hy⟩
  · exact hx
  · exact h i y hy

noncomputable def Lay.ownA (L : Lay) (n g : Nat) (F : Bool → Nat → Prop) (v : Value) (b : Nat) : Option Tg :=
  if b = g then some (.wire n) else if F false b then some (.ring n false) else if F true b then some (.ring n true) else if v.ownBlock = some b then some .row else if L.wv.ownBlock = some b then none else L.own b
noncomputable def Lay.add (L : Lay) (n g : Nat) (r : Bool → Nat) (F : Bool → Nat → Prop) (v : Value) : Lay :=
  { L with wv := v, wa := fun i => if i = n then g else L.wa i, wt := fun i => if i = n then .slice none 0 0 else L.wt i, rr := fun i => if i = n then r else L.rr i, own := L.ownA n g F v }

section
variable {W W' : World} {B : Nat} {L : Lay} {S : Ws}
theorem Wd.addWire (h : Wd W B L S) {g : Nat} {r : Bool → Nat} {F : Bool → Nat → Prop} {v : Value} {x : Wi} (hk : Kept (fun b => b = L.kb ∨ L.wv.ownBlock = some b) W W')
    (hkept : Kb W' L.kb S.now v (fun fd => L.at_ (S.fds fd)) (.pointer (some ⟨L.sb, 0, none⟩)) (.pointer (L.at_ S.nt))) (hrow : RP.own W' B v ((List.range S.ws.length).map L.wa ++ [g]))
    (hro : ∀ b, v.ownBlock = some b → L.wv.ownBlock = some b ∨ W.heap.size ≤ b) (hwr : Wr W' W.heap.size g S.ws.length r F (.slice none 0 0) x) (hrF : ∀ b, v.ownBlock = some b → ¬ FW g F b) (hx : x.wait = []) :
    ∃ L', Wd W' B L' (S.addW x) ∧ L.ext L' S.ws.length ∧ L'.wa S.ws.length = g ∧ Mv W W' L.F L'.F ∧ L'.wt S.ws.length = .slice none 0 0 := by
  have hwo := h.wtok
  obtain ⟨n, hn⟩ : ∃ n, n = S.ws.length := ⟨_, rfl⟩
  rw [← hn] at hwr ⊢
  have hsz := hk.size
  have hFb : ∀ b, FW g F b → W.heap.size ≤ b := fun b hb => (hwr.lt hb).2
  -- what was somebody's, and not the row's, is still theirs
  have hne : ∀ b t, L.own b = some t → t ≠ .row → L.ownA n g F v b = some t := fun b t hb ht => by
    have hl := (h.lt b t hb).2
    have h1 : ¬ b = g := fun e => by have := hFb b (.inl e); omega
    have h2 : ∀ k, ¬ F k b := fun k e => by have := hFb b (.inr ⟨k, e⟩); omega
    have h3 : ¬ L.wv.ownBlock = some b := fun e => by have := h.orow b e; rw [hb] at this; cases this; exact ht rfl
    have h4 : ¬ v.ownBlock = some b := fun e => by
      rcases hro b e with h5 | h5
      · exact h3 h5
      · omega
    unfold Lay.ownA
    rw [if_neg h1, if_neg (h2 false), if_neg (h2 true), if_neg h4, if_neg h3]
    exact hb
  have hin : ∀ b t, L.ownA n g F v b = some t → (b = g ∧ t = .wire n) ∨ (∃ k, F k b ∧ t = .ring n k) ∨ (v.ownBlock = some b ∧ t = .row) ∨ (L.own b = some t ∧ ¬ L.wv.ownBlock = some b) := fun b t hb => by
    unfold Lay.ownA at hb
    split at hb
    · cases hb; exact .inl ⟨by assumption, rfl⟩
    · split at hb
      · cases hb; exact .inr (.inl ⟨false, by assumption, rfl⟩)
      · split at hb
        · cases hb; exact .inr (.inl ⟨true, by assumption, rfl⟩)
        · split at hb
          · cases hb; exact .inr (.inr (.inl ⟨by assumption, rfl⟩))
          · split at hb
            · cases hb
            · exact .inr (.inr (.inr ⟨hb, by assumption⟩))
  have hog : L.ownA n g F v g = some (.wire n) := by unfold Lay.ownA; rw [if_pos rfl]
  have horow : ∀ b, v.ownBlock = some b → L.ownA n g F v b = some .row := fun b hb => by
    have h0 := hrF b hb
    unfold Lay.ownA
    rw [if_neg (fun e => h0 (.inl e)), if_neg (fun e => h0 (.inr ⟨_, e⟩)), if_neg (fun e => h0 (.inr ⟨_, e⟩)), if_pos hb]
  have hring : ∀ k b, F k b ↔ (L.add n g r F v).G n k b := fun k b => by
    constructor
    · intro hb
      have h1 : ¬ b = g := fun e => hwr.own k (e ▸ hb)
      show L.ownA n g F v b = _
      unfold Lay.ownA
      rw [if_neg h1]
      cases k with
      | false => rw [if_pos hb]
      | true => rw [if_neg (fun e => hwr.sep false b e hb), if_pos hb]
    · intro hb
      rcases hin b _ hb with ⟨_, e⟩ | ⟨k', hk', e⟩ | ⟨_, e⟩ | ⟨e, _⟩
      · cases e
      · cases e; exact hk'
      · cases e
      · have := h.oi b _ n e rfl; omega
  have hold : ∀ b t, L.own b = some t → t ≠ .row → t ≠ .kept → W'.heap[b]? = W.heap[b]? := fun b t hb h1 h2 => hk.block b (h.lt b t hb).2 (by
    rintro (rfl | e)
    · rw [h.okept] at hb; cases hb; exact h2 rfl
    · have := h.orow b e
      rw [this] at hb; cases hb; exact h1 rfl)
  have hat : ∀ q : Option (Nat × Bool), (∀ i k, q = some (i, k) → i < n) → (L.add n g r F v).at_ q = L.at_ q := fun q hq => by
    cases q with
    | none => rfl
    | some y =>
      have := hq y.1 y.2 rfl
      show some (Addr.mk (if y.1 = n then g else L.wa y.1) _ _) = some (Addr.mk (L.wa y.1) _ _)
      rw [if_neg (by omega)]
  have hext : L.ext (L.add n g r F v) n := ⟨rfl, rfl, rfl, fun i hi => if_neg (by omega), fun i hi => if_neg (by omega)⟩
  have hlist : (List.range S.ws.length).map L.wa ++ [g] = (List.range (S.addW x).ws.length).map (L.add n g r F v).wa := by
    rw [Ws.addW_len, List.range_succ, List.map_append, ← hn]
    congr 1
    · apply List.map_congr_left
      intro i hi
      exact (hext.wa i (List.mem_range.1 hi)).symm
    · show [g] = [if n = n then g else L.wa n]
      rw [if_pos rfl]
  refine ⟨L.add n g r F v, ⟨h.top.same (hold _ _ h.otop (fun e => by cases e) (fun e => by cases e)), ?_, h.sig.same (hold _ _ h.osig (fun e => by cases e) (fun e => by cases e)), ?_, ?_, ?_, hne _ _ h.otop (fun e => by cases e), hne _ _ h.okept (fun e => by cases e), hne _ _ h.osig (fun e => by cases e), horow, ?_, ?_, Nat.le_trans h.hs hsz, ?_, ?_, ?_, ?_⟩, hext, if_pos rfl, ⟨?_, ?_⟩, if_pos rfl⟩
  · have e1 : (fun fd => (L.add n g r F v).at_ ((S.addW x).fds fd)) = fun fd => L.at_ (S.fds fd) := by
      funext fd
      exact hat _ (fun i k e => by have := h.fdok fd i k e; omega)
    rw [e1, show (S.addW x).nt = S.nt from rfl, hat S.nt (fun i k e => by have := h.ntok i k e; omega)]
    exact hkept
  · rw [← hlist]
    have e : (S.addW x).ws.length = S.ws.length + 1 := Ws.addW_len S x
    exact hrow
  · intro j z hz
    rcases Ws.addW_get hz with ⟨rfl, rfl⟩ | ⟨hj, hz'⟩
    · rw [← hn]
      have e1 : (L.add n g r F v).wa n = g := if_pos rfl
      have e2 : (L.add n g r F v).rr n = r := if_pos rfl
      have e3 : (L.add n g r F v).wt n = .slice none 0 0 := if_pos rfl
      rw [e1, e2, e3]
      have h1 := hwr.congr hring
      exact ⟨h1.blk, Nat.le_trans h.hs h1.hB, Nat.le_trans h.hs hsz, fun k hc => by obtain ⟨o, ho⟩ := h1.ring k hc; exact ⟨o, ho.more h.hs⟩, h1.nor, h1.sep, h1.own⟩
    · have hjn : j ≠ n := by omega
      have e1 : (L.add n g r F v).wa j = L.wa j := if_neg hjn
      have e2 : (L.add n g r F v).rr j = L.rr j := if_neg hjn
      have e3 : (L.add n g r F v).wt j = L.wt j := if_neg hjn
      rw [e1, e2, e3]
      refine ((h.wire j z hz').same (fun b hb => ?_) (Nat.le_trans h.hs hsz)).congr (fun k b => ⟨fun hb => hne b _ hb (fun e => by cases e), fun hb => ?_⟩)
      · rcases hb with rfl | ⟨k, hb⟩
        · exact hold _ _ (h.owire j hj) (fun e => by cases e) (fun e => by cases e)
        · exact hold b _ hb (fun e => by cases e) (fun e => by cases e)
      · rcases hin b _ hb with ⟨_, e⟩ | ⟨k', hk', e⟩ | ⟨_, e⟩ | ⟨e, _⟩
        · cases e
        · cases e; exact absurd rfl hjn
        · cases e
        · exact e
  · intro j z hz
    rcases Ws.addW_get hz with ⟨rfl, rfl⟩ | ⟨hj, hz'⟩
    · rw [hx, ← hn]
      exact ⟨none, 0, if_pos rfl, Nat.le_refl _, fun _ => rfl, RowK.shows_nil, fun a ha => by cases ha⟩
    · have hjn : j ≠ n := by omega
      obtain ⟨A, c, e1, e2, e3, e4, e5⟩ := h.wait j z hz'
      refine ⟨A, c, (if_neg hjn).trans e1, e2, e3, ?_, fun a ha => hne _ _ (e5 a ha) (fun e => by cases e)⟩
      have hwl : z.wait.map (L.add n g r F v).wa = z.wait.map L.wa := by
        apply List.map_congr_left
        intro i hi
        exact hext.wa i (by have := hwo j z hz' i hi; omega)
      rw [hwl]
      refine RowK.shows_same e4 (fun g' hg => ?_) hsz
      cases A with
      | none => cases hg
      | some a => cases hg; exact hold _ _ (e5 a rfl) (fun e => by cases e) (fun e => by cases e)
  · intro j hj
    rw [Ws.addW_len] at hj
    by_cases e : j = n
    · subst e
      show L.ownA j g F v (if j = j then g else L.wa j) = _
      rw [if_pos rfl]; exact hog
    · show L.ownA n g F v (if j = n then g else L.wa j) = _
      rw [if_neg e]
      exact hne _ _ (h.owire j (by omega)) (fun e => by cases e)
  · intro b t hb
    rcases hin b t hb with ⟨rfl, _⟩ | ⟨k', hk', _⟩ | ⟨hv, _⟩ | ⟨e, _⟩
    · have := hwr.lt (.inl rfl); have := h.hs; omega
    · have := hwr.lt (.inr ⟨k', hk'⟩); have := h.hs; omega
    · have := RowK.own_lt hrow hv; omega
    · have := h.lt b t e; omega
  · intro fd j k hf
    have := h.fdok fd j k hf
    rw [Ws.addW_len]; omega
  · intro j k hf
    have := h.ntok j k hf
    rw [Ws.addW_len]; omega
  · intro j z hz a ha
    rw [Ws.addW_len]
    rcases Ws.addW_get hz with ⟨rfl, rfl⟩ | ⟨_, hz'⟩
    · rw [hx] at ha; cases ha
    · have := h.wtok j z hz' a ha; omega
  · intro b t j hb hj
    rw [Ws.addW_len]
    rcases hin b t hb with ⟨_, rfl⟩ | ⟨k', _, rfl⟩ | ⟨_, rfl⟩ | ⟨e, _⟩
    · cases hj; omega
    · cases hj; omega
    · cases hj
    · have := h.oi b t j e hj; omega
  · refine hk.mono fun b _ hb => ?_
    rcases hb with rfl | e
    · exact ⟨_, h.okept⟩
    · exact ⟨_, h.orow b e⟩
  · rintro b ⟨t, ht⟩
    rcases hin b t ht with ⟨rfl, _⟩ | ⟨k', hk', _⟩ | ⟨hv, _⟩ | ⟨e, _⟩
    · exact .inr (hFb _ (.inl rfl))
    · exact .inr (hFb _ (.inr ⟨k', hk'⟩))
    · rcases hro b hv with h5 | h5
      · exact .inl ⟨_, h.orow b h5⟩
      · exact .inr h5
    · exact .inl ⟨_, e⟩
end
end Go.Proofs.YtlephnfepofbbaaGreatDoor

/-
  find, wire, outer, made: from numbers to ends.
-/
namespace Go.Proofs.YtlephnfepofbbaaGreatDoor
open Go.RowKit Go.Maps Go.ChangeMaps

/-- What a descriptor's number names. -/
def Ws.fd (s : Ws) (n : Int) : Option (Nat × Bool) := if 0 ≤ n ∧ n ≤ 95 then s.fds n.toNat else none
/-- The wire whose second end is outside. -/
def Ws.outer (s : Ws) (n : Int) : Option Wi := if 0 ≤ n then (match s.ws[n.toNat]? with | some x => if (x.e true).is = 2 then some x else none | none => none) else none
theorem Ws.outer_some {s : Ws} {n : Int} {x : Wi} (h : s.outer n = some x) : ∃ i : Nat, n = (i : Int) ∧ s.ws[i]? = some x ∧ (x.e true).is = 2 := by
  unfold Ws.outer at h
  split at h
  · refine ⟨n.toNat, by omega, ?_⟩
    split at h
    · rename_i y hy
      split at h
      · cases h; exact ⟨hy, by assumption⟩
      · cases h
    · cases h
  · cases h
theorem Ws.outer_of {s : Ws} {i : Nat} {x : Wi} (h : s.ws[i]? = some x) (h2 : (x.e true).is = 2) : s.outer (i : Int) = some x := by
  unfold Ws.outer
  rw [if_pos (by omega)]
  simp [h, h2]
theorem Ws.fd_of {s : Ws} {i : Nat} (h : i ≤ 95) : s.fd (i : Int) = s.fds i := by
  unfold Ws.fd
  rw [if_pos (by omega)]
  simp

theorem rp_at {w : World} {B : Nat} {v : Value} {xs : List Nat} (h : RP.own w B v xs) {i g : Nat} (hx : xs[i]? = some g) :
    ∃ g0 c, v = .slice (some ⟨g0, 0, none⟩) xs.length c ∧ g0 < w.heap.size ∧ w.cell? ⟨g0, i, none⟩ = some (.pointer (some ⟨g, 0, none⟩)) := by
  rcases RowK.own_form h with ⟨_, rfl⟩ | ⟨g0, c, rfl, _, hg, _, hl⟩
  · simp at hx
  · refine ⟨g0, c, rfl, hg, ?_⟩
    have := hl i g hx 0 (by decide)
    rw [Nat.zero_add] at this
    rw [show i * RP.n + 0 = i from by show i * 1 + 0 = i; omega] at this
    exact this

section
variable {w w' : World} {B : Nat} {L : Lay} {S : Ws}
theorem wmade_yes {p kb : Nat} (h : Blk w p 68 #[.pointer (some ⟨kb, 0, none⟩)]) : Calls Tryz.prog 44 #[.pointer (some ⟨p, 0, none⟩)] w fun e w' => e = .returned (.bool true) ∧ w = w' := by
  have c0 := h.cell 0
  simp at c0
  clear h
  go_enter Tryz.func44, Tryz.ntmps44
  go_wp2_with fail
  go_ret
  exact ⟨rfl, rfl⟩
theorem wmade_zero {p : Nat} (h : Blk w p 68 #[.pointer none]) : Calls Tryz.prog 44 #[.pointer (some ⟨p, 0, none⟩)] w fun e w' => e = .returned (.bool false) ∧ w = w' := by
  have c0 := h.cell 0
  simp at c0
  clear h
  go_enter Tryz.func44, Tryz.ntmps44
  go_wp2_with fail
  go_ret
  exact ⟨rfl, rfl⟩
theorem wmade_nil (w : World) : Calls Tryz.prog 44 #[.pointer none] w fun e w' => e = .returned (.bool false) ∧ w = w' := by
  go_enter Tryz.func44, Tryz.ntmps44
  go_wp2_with fail
  go_ret
  exact ⟨rfl, rfl⟩

theorem find_yes (h : Wd w B L S) {n : Int} {i : Nat} {k : Bool} (hf : S.fd n = some (i, k)) : Calls Tryz.prog 116 #[.pointer (some ⟨L.p, 0, none⟩), .int .i64 n] w fun e w' =>
    e = .returned (.tuple #[.pointer (some ⟨L.wa i, off k, none⟩), .int .i64 0]) ∧ w = w' := by
  have HM := Lib.hid (wmade_yes h.top)
  have c0 := h.top.cell 0
  simp at c0
  have lp := h.top.lt
  have lk := h.kept.lt
  unfold Ws.fd at hf
  split at hf
  · rename_i hn
    obtain ⟨m, rfl⟩ : ∃ m : Nat, n = (m : Int) := ⟨n.toNat, by omega⟩
    simp at hf
    have cf := h.kept.fd (i := m) (by omega)
    rw [hf] at cf
    simp [Lay.at_] at cf
    obtain ⟨b0, b1⟩ := hn
    have b2 : ¬ (m : Int) < 0 := by omega
    have b3 : ¬ (95 : Int) < (m : Int) := by omega
    clear h hf
    go_enter Tryz.func116, Tryz.ntmps116
    go_wp2_with fail
    refine HM.out.mono ?_
    rintro e w1 ⟨rfl, rfl⟩
    go_wp2_with fail
    go_ret2
    exact ⟨rfl, rfl⟩
  · cases hf
theorem find_no (h : Wd w B L S) {n : Int} (hf : S.fd n = none) : Calls Tryz.prog 116 #[.pointer (some ⟨L.p, 0, none⟩), .int .i64 n] w fun e w' =>
    e = .returned (.tuple #[.pointer none, .int .i64 110]) ∧ w = w' := by
  have HM := Lib.hid (wmade_yes h.top)
  have c0 := h.top.cell 0
  simp at c0
  have lp := h.top.lt
  have lk := h.kept.lt
  by_cases hn : 0 ≤ n ∧ n ≤ 95
  · unfold Ws.fd at hf
    rw [if_pos hn] at hf
    obtain ⟨m, rfl⟩ : ∃ m : Nat, n = (m : Int) := ⟨n.toNat, by omega⟩
    simp at hf
    have cf := h.kept.fd (i := m) (by omega)
    rw [hf] at cf
    simp [Lay.at_] at cf
    obtain ⟨b0, b1⟩ := hn
    have b2 : ¬ (m : Int) < 0 := by omega
    have b3 : ¬ (95 : Int) < (m : Int) := by omega
    clear h hf
    go_enter Tryz.func116, Tryz.ntmps116
    go_wp2_with fail
    refine HM.out.mono ?_
    rintro e w1 ⟨rfl, rfl⟩
    go_wp2_with fail
    go_ret2
    exact ⟨rfl, rfl⟩
  · clear h hf
    rcases (by omega : n < 0 ∨ (0 ≤ n ∧ 95 < n)) with b2 | ⟨b1, b2⟩
    · go_enter Tryz.func116, Tryz.ntmps116
      go_wp2_with fail
      refine HM.out.mono ?_
      rintro e w1 ⟨rfl, rfl⟩
      go_wp2_with fail
      go_ret2
      exact ⟨rfl, rfl⟩
    · have b3 : ¬ n < 0 := by omega
      go_enter Tryz.func116, Tryz.ntmps116
      go_wp2_with fail
      refine HM.out.mono ?_
      rintro e w1 ⟨rfl, rfl⟩
      go_wp2_with fail
      go_ret2
      exact ⟨rfl, rfl⟩

theorem Wd.wrow (h : Wd w B L S) {i : Nat} (hi : i < S.ws.length) : ∃ g0 c, L.wv = .slice (some ⟨g0, 0, none⟩) S.ws.length c ∧ g0 < w.heap.size ∧ w.cell? ⟨g0, i, none⟩ = some (.pointer (some ⟨L.wa i, 0, none⟩)) := by
  obtain ⟨g0, c, e1, e2, e3⟩ := rp_at h.row (i := i) (g := L.wa i) (by simp [List.getElem?_range hi])
  rw [List.length_map, List.length_range] at e1
  exact ⟨g0, c, e1, e2, e3⟩
theorem Wd.wlen (h : Wd w B L S) : ∃ A c, L.wv = .slice A S.ws.length c := by
  obtain ⟨A, c, e, _⟩ := RowK.own_shows h.row
  rw [List.length_map, List.length_range] at e
  exact ⟨A, c, e⟩
theorem wire_yes (h : Wd w B L S) {i : Nat} (hi : i < S.ws.length) : Calls Tryz.prog 66 #[.pointer (some ⟨L.p, 0, none⟩), .int .i64 (i : Int)] w fun e w' =>
    e = .returned (.tuple #[.pointer (some ⟨L.wa i, 0, none⟩), .int .i64 0]) ∧ w = w' := by
  have HM := Lib.hid (wmade_yes h.top)
  have c0 := h.top.cell 0
  simp at c0
  have lp := h.top.lt
  have lk := h.kept.lt
  obtain ⟨g0, c, ev, hg0, hc⟩ := h.wrow hi
  have c1 := h.kept.c1
  rw [ev] at c1
  have b0 : (0 : Int) ≤ (i : Int) := by omega
  have b1 : (i : Int) < (S.ws.length : Int) := by omega
  have b2 : ¬ (i : Int) < 0 := by omega
  have b3 : ¬ (S.ws.length : Int) ≤ (i : Int) := by omega
  clear h ev
  go_enter Tryz.func66, Tryz.ntmps66
  go_wp2_with fail
  refine HM.out.mono ?_
  rintro e w1 ⟨rfl, rfl⟩
  go_wp2_with fail
  go_ret2
  exact ⟨rfl, rfl⟩
theorem wire_no (h : Wd w B L S) {n : Int} (hn : n < 0 ∨ (S.ws.length : Int) ≤ n) : Calls Tryz.prog 66 #[.pointer (some ⟨L.p, 0, none⟩), .int .i64 n] w fun e w' =>
    e = .returned (.tuple #[.pointer none, .int .i64 116]) ∧ w = w' := by
  have HM := Lib.hid (wmade_yes h.top)
  have c0 := h.top.cell 0
  simp at c0
  have lp := h.top.lt
  have lk := h.kept.lt
  obtain ⟨A, c, ev⟩ := h.wlen
  have c1 := h.kept.c1
  rw [ev] at c1
  clear h ev
  by_cases b2 : n < 0
  · clear hn
    go_enter Tryz.func66, Tryz.ntmps66
    go_wp2_with fail
    refine HM.out.mono ?_
    rintro e w1 ⟨rfl, rfl⟩
    go_wp2_with fail
    go_ret2
    exact ⟨rfl, rfl⟩
  · have b3 : (S.ws.length : Int) ≤ n := by omega
    clear hn
    go_enter Tryz.func66, Tryz.ntmps66
    go_wp2_with fail
    refine HM.out.mono ?_
    rintro e w1 ⟨rfl, rfl⟩
    go_wp2_with fail
    go_ret2
    exact ⟨rfl, rfl⟩
theorem outer_yes (h : Wd w B L S) {n : Int} {x : Wi} (ho : S.outer n = some x) : Calls Tryz.prog 58 #[.pointer (some ⟨L.p, 0, none⟩), .int .i64 n] w fun e w' =>
    e = .returned (.tuple #[.pointer (some ⟨L.wa n.toNat, 8, none⟩), .int .i64 0]) ∧ w = w' := by
  obtain ⟨i, rfl, hx, h2⟩ := Ws.outer_some ho
  have HW := Lib.hid (wire_yes h (List.getElem?_eq_some_iff.1 hx).1)
  have c2 := (h.wire i x hx).blk.c2 true
  rw [h2] at c2
  rw [off_t] at c2
  rw [Int.toNat_natCast]
  clear h ho hx h2
  go_enter Tryz.func58, Tryz.ntmps58
  go_wp2_with fail
  refine HW.out.mono ?_
  rintro e w1 ⟨rfl, rfl⟩
  go_wp2_with fail
  go_ret2
  exact ⟨rfl, rfl⟩
theorem outer_no (h : Wd w B L S) {n : Int} (ho : S.outer n = none) : Calls Tryz.prog 58 #[.pointer (some ⟨L.p, 0, none⟩), .int .i64 n] w fun e w' =>
    e = .returned (.tuple #[.pointer none, .int .i64 116]) ∧ w = w' := by
  by_cases hn : 0 ≤ n ∧ n < (S.ws.length : Int)
  · obtain ⟨i, rfl⟩ : ∃ i : Nat, n = (i : Int) := ⟨n.toNat, by omega⟩
    have hi : i < S.ws.length := by omega
    have hx : S.ws[i]? = some S.ws[i] := List.getElem?_eq_getElem hi
    have h2 : ¬ ((S.ws[i].e true).is = 2) := fun e => by
      have := Ws.outer_of hx e
      rw [ho] at this; cases this
    have HW := Lib.hid (wire_yes h hi)
    have c2 := (h.wire i _ hx).blk.c2 true
    rw [off_t] at c2
    obtain ⟨z, hz⟩ : ∃ z, z = ((S.ws[i].e true).is : Int) := ⟨_, rfl⟩
    rw [← hz] at c2
    have h3 : ¬ z = 2 := by omega
    clear h ho hx h2 hz hn
    go_enter Tryz.func58, Tryz.ntmps58
    go_wp2_with fail
    refine HW.out.mono ?_
    rintro e w1 ⟨rfl, rfl⟩
    go_wp2_with fail
    go_ret2
    exact ⟨rfl, rfl⟩
  · have HW := Lib.hid (wire_no h (n := n) (by omega))
    clear h ho hn
    go_enter Tryz.func58, Tryz.ntmps58
    go_wp2_with fail
    refine HW.out.mono ?_
    rintro e w1 ⟨rfl, rfl⟩
    go_wp2_with fail
    go_ret2
    exact ⟨rfl, rfl⟩
end
end Go.Proofs.YtlephnfepofbbaaGreatDoor

/-
  lay, layOut, open, room.
-/
namespace Go.Proofs.YtlephnfepofbbaaGreatDoor
open Go.RowKit Go.Maps Go.ChangeMaps

section
variable {w w' : World} {B : Nat} {L : Lay} {S : Ws}
theorem Wd.kb_row (h : Wd w B L S) : L.wv.ownBlock ≠ some L.kb := fun e => by
  have := h.orow _ e
  rw [h.okept] at this; cases this
/-- What lay leaves. -/
def Laid (w : World) (B : Nat) (L : Lay) (S : Ws) (x : Wi) (v : Value) (w' : World) : Prop := ∃ L' g, v = .pointer (some ⟨g, 0, none⟩) ∧ Wd w' B L' (S.addW x) ∧ L.ext L' S.ws.length ∧ L'.wa S.ws.length = g ∧ Mv w w' L.F L'.F ∧ L'.wt S.ws.length = .slice none 0 0

set_option maxHeartbeats 1000000 in
theorem wlay_any (h : Wd w B L S) (cap readers : Nat) (hc : cap ≤ 65536) (hr : readers ≤ 2) (hl : S.ws.length ≤ 1000) :
    Calls Tryz.prog 96 #[.pointer (some ⟨L.kb, 0, none⟩), .int .i64 (cap : Int), .int .i64 (readers : Int)] w fun e w' => ∃ v, e = .returned v ∧ Laid w B L S (Wi.new cap readers) v w' := by
  have HN := Lib.hid (newWire_any w S.ws.length cap readers hc hr)
  have H := Lib.hid h
  obtain ⟨A, c, ev⟩ := h.wlen
  have c1 := h.kept.c1
  have lk := h.kept.lt
  have fk := h.kept.frozen 1
  rw [ev] at c1
  clear h
  go_enter Tryz.func96, Tryz.ntmps96
  go_wp2_with fail
  refine HN.out.mono ?_
  rintro e w1 ⟨rfl, ⟨r, F, hwr⟩, hb⟩
  obtain ⟨g, hg⟩ : ∃ g, g = w.heap.size := ⟨_, rfl⟩
  have HG := Lib.hid hg
  rw [← hg] at hwr ⊢
  have H1 := Lib.hid (And.intro hwr hb)
  have hk1 : Kb w1 L.kb S.now L.wv (fun fd => L.at_ (S.fds fd)) (.pointer (some ⟨L.sb, 0, none⟩)) (.pointer (L.at_ S.nt)) := H.out.kept.same (hb.block _ lk)
  have d1 := hk1.c1
  rw [ev] at d1
  have e1 := hk1.frozen 1
  have l1 := hk1.lt
  have K1 := Lib.hid hk1
  clear hwr hb hk1 hg
  have HS := Lib.hid (show w.heap.size ≤ w1.heap.size from H1.out.2.size)
  go_wp2_with (at_builtin; refine RowK.append (R := RP) rfl _ _ rfl B (.slice A S.ws.length c) ((List.range S.ws.length).map L.wa) [g] rfl (RowK.own_alloc (RowK.own_below (ev ▸ H.out.row) H1.out.2) _) (some ⟨w1.heap.size, 0, none⟩) 1 1 rfl rfl (RowK.new_shows (R := RP) w1 g 96) (fun e => by cases e) (by simp; omega) (by have := H.out.hs; have := HS.out; simp; omega) ?_; intro v' w2 O2 hg2 ho2; obtain ⟨A2, c2, ev2, _⟩ := RowK.own_shows O2; obtain ⟨N2, hN2⟩ : ∃ N, N = ((List.range S.ws.length).map L.wa ++ [g]).length := ⟨_, rfl⟩; rw [← hN2] at ev2; subst ev2; have HP2 := Lib.hid (And.intro O2 (And.intro hg2 ho2)); have hk2 : Kb w2 L.kb S.now L.wv (fun fd => L.at_ (S.fds fd)) (.pointer (some ⟨L.sb, 0, none⟩)) (.pointer (L.at_ S.nt)) := K1.out.same (RowK.grown_far hg2 l1 (fun e => H.out.kb_row (ev ▸ e))); have n1 := hk2.c1; have n2 := hk2.frozen 1; have n3 := hk2.lt; have K2 := Lib.hid hk2; clear O2 hg2 ho2 hk2 hN2)
  go_ret
  refine ⟨_, rfl, ?_⟩
  obtain ⟨hwr, hb⟩ := H1.out
  obtain ⟨O2, hg2, ho2⟩ := HP2.out
  have h := H.out
  have hgw : g = w.heap.size := HG.out
  have hlg : g < w1.heap.size := hwr.blk.lt
  have hs1 := hb.size
  have hs2 : w1.heap.size + 1 ≤ w2.heap.size := by have := hg2.size; simpa using this
  have hsame : ∀ b, b < w1.heap.size → L.wv.ownBlock ≠ some b → w2.heap[b]? = w1.heap[b]? := fun b hb' hn => RowK.grown_far hg2 hb' (fun e => hn (ev ▸ e))
  have hrow : ∀ b, L.wv.ownBlock = some b → b < w.heap.size := fun b e => (h.lt b _ (h.orow b e)).2
  have hwr2 : Wr w2 g g S.ws.length r F (.slice none 0 0) (Wi.new cap readers) := hwr.same (fun b hb' => hsame b (hwr.lt hb').1 (fun e => by have := hrow b e; have := (hwr.lt hb').2; omega)) (by omega)
  have hkb : L.kb ≠ g := by omega
  have hwr3 : Wr (w2.setCell ⟨L.kb, 1, none⟩ (.slice A2 N2 c2)) g g S.ws.length r F (.slice none 0 0) (Wi.new cap readers) := hwr2.same (fun b hb' => Below.heap_setCell _ _ _ _ (show b ≠ L.kb by have := (hwr2.lt hb').2; omega)) (by simp [World.setCell]; omega)
  have hro : ∀ b, (Value.slice A2 N2 c2).ownBlock = some b → L.wv.ownBlock = some b ∨ w1.heap.size < b := fun b e => by
    rcases ho2 with e2 | e2
    · exact .inl (by rw [ev, ← e2]; exact e)
    · rw [e2] at e
      simp at e
      exact .inr (by omega)
  have a1 : Kept (fun b => b = L.kb ∨ L.wv.ownBlock = some b) w (w2.setCell ⟨L.kb, 1, none⟩ (.slice A2 N2 c2)) := by
    refine ⟨hg2.os.trans hb.os, hg2.tape.trans hb.tape, hg2.output.trans hb.output, ?_, ?_⟩
    · simp [World.setCell]; omega
    · intro b hb' hn
      rw [Below.heap_setCell _ _ _ _ (show b ≠ L.kb from fun e => hn (.inl e)), hsame b (by omega) (fun e => hn (.inr e))]
      exact hb.block b hb'
  have a2 : ∀ b, (Value.slice A2 N2 c2).ownBlock = some b → b ≠ L.kb := fun b e e2 => by
    rcases hro b e with e3 | e3
    · exact h.kb_row (e2 ▸ e3)
    · have := h.kept.lt; omega
  have a3 : ∀ b, (Value.slice A2 N2 c2).ownBlock = some b → L.wv.ownBlock = some b ∨ w.heap.size ≤ b := fun b e => by
    rcases hro b e with e3 | e3
    · exact .inl e3
    · exact .inr (by omega)
  have a4 : ∀ b, (Value.slice A2 N2 c2).ownBlock = some b → ¬ FW g F b := fun b e hF => by
    rcases hro b e with e3 | e3
    · have := hrow b e3; have := (hwr3.lt hF).2; omega
    · have := hwr.lt hF; omega
  obtain ⟨L', k1, k2, k3, k4⟩ := h.addWire (W' := w2.setCell ⟨L.kb, 1, none⟩ (.slice A2 N2 c2)) (g := g) (r := r) (F := F) (v := .slice A2 N2 c2) (x := Wi.new cap readers) a1 (K2.out.set1 _) (RowK.own_same O2 fun b e => Below.heap_setCell _ _ _ _ (a2 b e)) a3 (hgw ▸ hwr3) a4 rfl
  exact ⟨L', g, rfl, k1, k2, k3, k4⟩

/-- The kept block alone turned. -/
theorem Wd.turnK (h : Wd w B L S) {now : Nat} {fds : Nat → Option (Nat × Bool)} {nt : Option (Nat × Bool)} (q : Kept (fun b => b = L.kb) w w') (hk : Kb w' L.kb now L.wv (fun fd => L.at_ (fds fd)) (.pointer (some ⟨L.sb, 0, none⟩)) (.pointer (L.at_ nt)))
    (hf : ∀ fd i k, fds fd = some (i, k) → i < S.ws.length) (hn : ∀ i k, nt = some (i, k) → i < S.ws.length) : Wd w' B L { S with now := now, fds := fds, nt := nt } := by
  have hs := q.size
  have e : ∀ b t, L.own b = some t → t ≠ .kept → w'.heap[b]? = w.heap[b]? := fun b t hb ht => q.block b (h.lt b t hb).2 (fun e => by subst e; rw [h.okept] at hb; cases hb; exact ht rfl)
  exact ⟨h.top.same (e _ _ h.otop (fun e => by cases e)), hk, h.sig.same (e _ _ h.osig (fun e => by cases e)), RowK.own_same h.row (fun k hk => e _ _ (h.orow k hk) (fun e => by cases e)),
    fun i x hx => (h.wire i x hx).same (fun b hb => by
      rcases hb with rfl | ⟨k, hk⟩
      · exact e _ _ (h.owire i (List.getElem?_eq_some_iff.1 hx).1) (fun e => by cases e)
      · exact e b _ hk (fun e => by cases e)) (Nat.le_trans h.hs hs),
    fun i x hx => (h.wait i x hx).same (fun b hb => e b _ hb (fun e => by cases e)) hs,
    h.otop, h.okept, h.osig, h.orow, h.owire, fun b t hb => ⟨(h.lt b t hb).1, Nat.lt_of_lt_of_le (h.lt b t hb).2 hs⟩, Nat.le_trans h.hs hs, hf, hn, h.wtok, h.oi⟩
theorem Wd.mvK (h : Wd w B L S) (q : Kept (fun b => b = L.kb) w w') : Mv w w' L.F L.F := ⟨q.mono fun b _ e => e ▸ ⟨_, h.okept⟩, fun _ e => .inl e⟩
/-- A wire's block alone turned. -/
theorem Wd.turnW (h : Wd w B L S) {i : Nat} {x y : Wi} (hx : S.ws[i]? = some x) (hb : Wb w' (L.wa i) i (L.rr i) (L.wt i) y) (q : Kept (fun j => j = L.wa i) w w') (hr : x.sameR y) (hw : y.wait = x.wait) :
    ∃ L', Wd w' B L' (S.setW i y) ∧ L.ext L' S.ws.length ∧ Mv w w' L.F L'.F := by
  obtain ⟨L', h1, h2, h3, _⟩ := h.wire1 hx ((h.wire i x hx).turn hb q hr) ⟨FW.kept q, fun _ e => .inl e⟩ hw
  exact ⟨L', h1, h2, h3⟩

/-- Once an end has a descriptor. -/
def Ws.opened (s : Ws) (i : Nat) (k : Bool) (fd : Nat) : Ws := match s.ws[i]? with
  | some x => { s.setW i (x.mark k 1) with fds := fun f => if f = fd then some (i, k) else s.fds f }
  | none => s
theorem Ws.opened_of {s : Ws} {i : Nat} {x : Wi} (h : s.ws[i]? = some x) (k : Bool) (fd : Nat) : s.opened i k fd = { s.setW i (x.mark k 1) with fds := fun f => if f = fd then some (i, k) else s.fds f } := by
  unfold Ws.opened; rw [h]

set_option maxHeartbeats 1000000 in
theorem wopen_any (h : Wd w B L S) {i : Nat} {x : Wi} (hx : S.ws[i]? = some x) (k : Bool) (fd : Nat) (hfd : fd < 96) :
    Calls Tryz.prog 49 #[.pointer (some ⟨L.kb, 0, none⟩), .int .i64 (fd : Int), .pointer (some ⟨L.wa i, off k, none⟩)] w fun e w' => e = .returned (.tuple #[]) ∧ ∃ L', Wd w' B L' (S.opened i k fd) ∧ L.ext L' S.ws.length ∧ Mv w w' L.F L'.F := by
  have hi := (List.getElem?_eq_some_iff.1 hx).1
  have c2 := (h.wire i x hx).blk.c2 k
  have f2 := (h.wire i x hx).blk.frozen (off k + 2)
  have lg := (h.wire i x hx).blk.lt
  have hne : L.kb ≠ L.wa i := fun e => by have := h.owire i hi; rw [← e, h.okept] at this; cases this
  have hw := (h.wire i x hx).blk.set2 k 1
  have q1 := (Kept.refl (fun j => j = L.wa i) w).setCell (p := ⟨L.wa i, off k + 2, none⟩) rfl (.int .i64 ((1 : Nat) : Int))
  obtain ⟨L', h1, h2, h3⟩ := h.turnW hx hw q1 (Wi.sameR_mark x k 1) rfl
  have hk := h1.kept
  rw [h2.kb] at hk
  have cf := h.kept.fd hfd
  have ff := h.kept.frozen (2 + fd)
  have lk := h.kept.lt
  have hset := hk.setFd hfd (some ⟨L.wa i, off k, none⟩)
  have q2 := (Kept.refl (fun j => j = L.kb) (w.setCell ⟨L.wa i, off k + 2, none⟩ (.int .i64 ((1 : Nat) : Int)))).setCell (p := ⟨L.kb, 2 + fd, none⟩) rfl (.pointer (some ⟨L.wa i, off k, none⟩))
  have hst : (S.setW i (x.mark k 1)).ws.length = S.ws.length := by unfold Ws.setW; simp
  have hpv : updA (fun f => L'.at_ ((S.setW i (x.mark k 1)).fds f)) fd (some ⟨L.wa i, off k, none⟩) = fun f => L'.at_ (if f = fd then some (i, k) else S.fds f) := by
    funext f
    unfold updA
    by_cases e : f = fd
    · rw [if_pos e, if_pos e]
      show _ = some (Addr.mk (L'.wa i) (off k) Option.none)
      rw [h2.wa i hi]
    · rw [if_neg e, if_neg e]; rfl
  rw [hpv] at hset
  have q2' : Kept (fun j => j = L'.kb) (w.setCell ⟨L.wa i, off k + 2, none⟩ (.int .i64 ((1 : Nat) : Int))) ((w.setCell ⟨L.wa i, off k + 2, none⟩ (.int .i64 ((1 : Nat) : Int))).setCell ⟨L.kb, 2 + fd, none⟩ (.pointer (some ⟨L.wa i, off k, none⟩))) := by rw [h2.kb]; exact q2
  have hfin := h1.turnK (now := S.now) (fds := fun f => if f = fd then some (i, k) else S.fds f) (nt := S.nt) q2' (by rw [h2.kb]; exact hset) (fun f j kk e => by
    rw [hst]
    split at e
    · cases e; exact hi
    · exact h.fdok f j kk e) (fun j kk e => by rw [hst]; exact h.ntok j kk e)
  have HE := Lib.hid (show ∃ L', Wd ((w.setCell ⟨L.wa i, off k + 2, none⟩ (.int .i64 ((1 : Nat) : Int))).setCell ⟨L.kb, 2 + fd, none⟩ (.pointer (some ⟨L.wa i, off k, none⟩))) B L' (S.opened i k fd) ∧ L.ext L' S.ws.length ∧ Mv w ((w.setCell ⟨L.wa i, off k + 2, none⟩ (.int .i64 ((1 : Nat) : Int))).setCell ⟨L.kb, 2 + fd, none⟩ (.pointer (some ⟨L.wa i, off k, none⟩))) L.F L'.F from
    ⟨L', by rw [Ws.opened_of hx]; exact hfin, h2, h3.trans (h1.mvK q2')⟩)
  have b0 : (0 : Int) ≤ (fd : Int) := by omega
  have b1 : (fd : Int) < 96 := by omega
  clear h hx hw q1 h1 h2 h3 hk hset q2 q2' hst hpv hfin hi
  go_enter Tryz.func49, Tryz.ntmps49
  go_wp2_with fail
  go_end0
  exact ⟨rfl, HE.out⟩
end
end Go.Proofs.YtlephnfepofbbaaGreatDoor

/-
  Pair, Pipe, Outer, Listen: what is made.
-/
namespace Go.Proofs.YtlephnfepofbbaaGreatDoor
open Go.RowKit Go.Maps Go.ChangeMaps

/-- The free descriptors. -/
def Ws.frees (s : Ws) : List Nat := (List.range 96).filter fun i => (s.fds i).isSome == false
theorem frees_numsA (L : Lay) (s : Ws) : numsA (fun fd => L.at_ (s.fds fd)) false 96 = s.frees := by
  unfold numsA Ws.frees
  congr 1
  funext i
  unfold Lay.at_
  rw [Option.isSome_map]
theorem Ws.frees_lt {s : Ws} {i a : Nat} (h : s.frees[i]? = some a) : a < 96 := by
  have := List.mem_of_getElem? h
  unfold Ws.frees at this
  exact List.mem_range.1 (List.mem_filter.1 this).1
theorem Ws.addW_setW (s : Ws) (x y : Wi) : (s.addW x).setW s.ws.length y = s.addW y := by
  unfold Ws.addW Ws.setW
  simp

/-- A block beside a world. -/
def Beside (W : World) (L : Lay) (g : Nat) : Prop := g < W.heap.size ∧ ¬ L.F g
theorem Beside.mv {W W' : World} {L L' : Lay} {g : Nat} (h : Beside W L g) (m : Mv W W' L.F L'.F) : Beside W' L' g ∧ W'.heap[g]? = W.heap[g]? :=
  ⟨⟨Nat.lt_of_lt_of_le h.1 m.k.size, fun e => by
    rcases m.o g e with h1 | h1
    · exact h.2 h1
    · have := h.1; omega⟩, m.k.block g h.1 h.2⟩

section
variable {w w' : World} {B : Nat} {L : Lay} {S : Ws}
theorem Wd.beside (h : Wd w B L S) {w' : World} (hb : w.heap.size ≤ w'.heap.size) {g : Nat} (hg : w.heap.size ≤ g) (hg2 : g < w'.heap.size) : Beside w' L g := ⟨hg2, fun e => by have := (h.ltF e).1; omega⟩

def outW (cap : Nat) : Wi := (Wi.new cap 2).mark true 2
set_option maxHeartbeats 1000000 in
theorem wlayOut_any (h : Wd w B L S) (cap : Nat) (hc : cap ≤ 65536) (hl : S.ws.length ≤ 1000) :
    Calls Tryz.prog 48 #[.pointer (some ⟨L.kb, 0, none⟩), .int .i64 (cap : Int)] w fun e w' => ∃ v, e = .returned v ∧ Laid w B L S (outW cap) v w' := by
  have HL := Lib.hid (wlay_any h cap 2 hc (by omega) hl)
  clear h
  go_enter Tryz.func48, Tryz.ntmps48
  go_wp2_with fail
  refine HL.out.mono ?_
  rintro e w1 ⟨_, rfl, L1, g, rfl, h1, h2, h3, h4, h5⟩
  subst h3
  obtain ⟨g, hg⟩ : ∃ g, g = L1.wa S.ws.length := ⟨_, rfl⟩
  have HG := Lib.hid hg
  have hx := Ws.addW_last S (Wi.new cap 2)
  have hw := h1.wire _ _ hx
  have c2 := hw.blk.c2 true
  have f2 := hw.blk.frozen (off true + 2)
  have lg := hw.blk.lt
  rw [off_t] at c2 f2
  have hw2 := hw.blk.set2 true 2
  rw [off_t] at hw2
  have q := (Kept.refl (fun j => j = L1.wa S.ws.length) w1).setCell (p := ⟨L1.wa S.ws.length, 8 + 2, none⟩) rfl (.int .i64 ((2 : Nat) : Int))
  obtain ⟨L2, k1, k2, k3⟩ := h1.turnW hx hw2 q (Wi.sameR_mark _ true 2) rfl
  rw [Ws.addW_setW] at k1
  rw [Ws.addW_len] at k2
  have HE := Lib.hid (show Laid w B L S (outW cap) (.pointer (some ⟨g, 0, none⟩)) (w1.setCell ⟨g, 8 + 2, none⟩ (.int .i64 ((2 : Nat) : Int))) from ⟨L2, g, rfl, hg ▸ k1, h2.trans k2 (by omega), (k2.wa _ (by omega)).trans hg.symm, hg ▸ h4.trans k3, (k2.wt _ (by omega)).trans h5⟩)
  rw [← hg] at c2 f2 lg ⊢
  clear h1 h2 h4 hx hw hw2 q k1 k2 k3 hg
  go_wp2_with fail
  go_ret
  exact ⟨_, rfl, HE.out⟩

/-- What room answers where there is room. -/
def RoomOut (w : World) (L : Lay) (S : Ws) (need : Nat) (e : Ending) (w' : World) : Prop := Below w.heap.size w w' ∧ ∃ v, e = .returned (.tuple #[v, .int .i64 0]) ∧ RI.own w' w.heap.size v (S.frees.take need)
theorem room_ok (h : Wd w B L S) (n most need : Nat) (hn : 1 ≤ n) (hm : n ≤ most) (hw : S.ws.length < 1000) (h1 : 1 ≤ need) (hf : need ≤ S.frees.length) :
    Calls Tryz.prog 47 #[.pointer (some ⟨L.p, 0, none⟩), .int .i64 (n : Int), .int .i64 (most : Int), .int .i64 (need : Int)] w (RoomOut w L S need) := by
  have HM := Lib.hid (wmade_yes h.top)
  have c0 := h.top.cell 0
  simp at c0
  have lp := h.top.lt
  have lk := h.kept.lt
  obtain ⟨A, c, ev⟩ := h.wlen
  have c1 := h.kept.c1
  rw [ev] at c1
  have hfl : S.frees.length ≤ 96 := by have := numsA_len (fun fd => L.at_ (S.fds fd)) false 96; rw [frees_numsA] at this; exact this
  have HF := Lib.hid (free_any h.kept need h1 (by omega))
  have HN := Lib.hid (And.intro (frees_numsA L S) hf)
  have b1 : ¬ (n : Int) < 1 := by omega
  have b2 : ¬ (most : Int) < (n : Int) := by omega
  have b3 : ¬ (S.ws.length : Int) = 1000 := by omega
  have b4 : ((S.ws.length : Int) == 1000) = false := by simpa using b3
  clear h ev hn hm hw h1 hf hfl
  go_enter Tryz.func47, Tryz.ntmps47
  go_wp2_with fail
  refine HM.out.mono ?_
  rintro e w1 ⟨rfl, rfl⟩
  go_wp2_with fail
  refine HF.out.mono ?_
  rintro e w1 ⟨hb, (⟨_, v, rfl, hv⟩ | ⟨hlt, _⟩)⟩
  · rw [HN.out.1] at hv
    have HE := Lib.hid (And.intro hb hv)
    clear hb hv
    go_wp2_with fail
    go_ret2
    exact ⟨HE.out.1, _, rfl, HE.out.2⟩
  · exfalso
    rw [HN.out.1] at hlt
    have := HN.out.2
    omega
theorem ri_at {w : World} {B : Nat} {v : Value} {xs : List Nat} (h : RI.own w B v xs) : ∃ A c, v = .slice A xs.length c ∧ (0 < xs.length → ∃ g, A = some ⟨g, 0, none⟩ ∧ B ≤ g ∧ g < w.heap.size ∧ ∀ (i a : Nat), xs[i]? = some a → w.cell? ⟨g, i, none⟩ = some (.int .i64 (a : Int))) := by
  rcases RowK.own_form h with ⟨rfl, rfl⟩ | ⟨g, c, rfl, _, hg, hB, hl⟩
  · exact ⟨none, 0, rfl, fun e => by simp at e⟩
  · refine ⟨_, c, rfl, fun _ => ⟨g, rfl, hB, hg, fun i a ha => ?_⟩⟩
    have := hl i a ha 0 (by decide)
    rw [Nat.zero_add] at this
    rw [show i * RI.n + 0 = i from by show i * 1 + 0 = i; omega] at this
    exact this

/-- What a call that makes a wire with one descriptor leaves. -/
def Made1 (w : World) (B : Nat) (L : Lay) (S : Ws) (x : Wi) (e : Ending) (w' : World) : Prop := ∃ fd : Nat, S.frees[0]? = some fd ∧ e = .returned (.tuple #[.int .i64 (fd : Int), .int .i64 (S.ws.length : Int), .int .i64 0]) ∧
  ∃ L', Wd w' B L' ((S.addW x).opened S.ws.length false fd) ∧ L.ext L' S.ws.length ∧ Mv w w' L.F L'.F
theorem take_one {l : List Nat} (h : 1 ≤ l.length) : ∃ a, l[0]? = some a ∧ l.take 1 = [a] := by
  cases l with
  | nil => simp at h
  | cons a l => exact ⟨a, rfl, rfl⟩
theorem take_two {l : List Nat} (h : 2 ≤ l.length) : ∃ a b, l[0]? = some a ∧ l[1]? = some b ∧ l.take 2 = [a, b] := by
  match l, h with
  | a :: b :: l, _ => exact ⟨a, b, rfl, rfl, rfl⟩

set_option maxRecDepth 100000 in
set_option maxHeartbeats 2000000 in
theorem wOuter_ok (h : Wd w B L S) (n : Nat) (hn : 1 ≤ n) (hm : n ≤ 65536) (hw : S.ws.length < 1000) (hf : 1 ≤ S.frees.length) :
    Calls Tryz.prog 21 #[.pointer (some ⟨L.p, 0, none⟩), .int .i64 (n : Int)] w (Made1 w B L S (outW n)) := by
  have HR := Lib.hid (room_ok h n 65536 1 hn hm hw (Nat.le_refl _) hf)
  obtain ⟨a, ha, hta⟩ := take_one hf
  have HA := Lib.hid (And.intro ha (Ws.frees_lt ha))
  have H := Lib.hid (And.intro h (And.intro hm hw))
  clear h hw hf
  go_enter Tryz.func21, Tryz.ntmps21
  go_wp2_with fail
  refine HR.out.mono ?_
  rintro e w1 ⟨hb, v, rfl, hrow⟩
  rw [hta] at hrow
  obtain ⟨A, c, rfl, hA⟩ := ri_at hrow
  obtain ⟨g0, rfl, hg0, hg1, hc⟩ := hA (by simp)
  have hw1 := H.out.1.below hb
  have c0 := hw1.top.cell 0
  simp at c0
  have lp := hw1.top.lt
  have HL := Lib.hid (wlayOut_any hw1 n H.out.2.1 (by have := H.out.2.2; omega))
  have HB := Lib.hid (And.intro (H.out.1.beside hb.size hg0 hg1) (And.intro hb (hc 0 a rfl)))
  clear hw1 hrow hA hb hc
  go_wp2_with fail
  refine HL.out.mono ?_
  rintro e w2 ⟨_, rfl, L2, g, rfl, h1, h2, h3, h4, _⟩
  have d0 := h1.top.cell 0
  rw [h2.p, h2.kb] at d0
  simp at d0
  obtain ⟨b1, b2⟩ := HB.out.1.mv h4
  have e0 : w2.cell? ⟨g0, 0, none⟩ = some (.int .i64 (a : Int)) := (World.cell?_of_block b2).trans HB.out.2.2
  have lg0 := b1.1
  have lp2 : L.p < w2.heap.size := Nat.lt_of_lt_of_le lp h4.k.size
  have hx := Ws.addW_last S (outW n)
  have hwx := (h1.wire _ _ hx).blk
  rw [h3] at hwx
  have lg := hwx.lt
  have HO := Lib.hid (wopen_any (h1.drewN 1) hx false a HA.out.2)
  rw [h3, off_f, h2.kb] at HO
  have H2 := Lib.hid (And.intro h1 (And.intro h2 (And.intro h3 (And.intro h4 b1))))
  clear h1 h2 h3 h4 b1 b2 hwx
  go_wp2_with fail
  go_still_tail 11, (by kernel_rfl)
  change wpList _ _ _ _ _ w2.drew
  go_wp2_with fail
  refine HO.out.mono ?_
  rintro e w3 ⟨rfl, L3, k1, k2, k3⟩
  obtain ⟨h1, h2, h3, h4, b1⟩ := H2.out
  rw [Ws.addW_len] at k2
  have hm2 : Mv w2 w3 L2.F L3.F := ⟨((Kept.refl L2.F w2).drewN 1).trans k3.k, k3.o⟩
  obtain ⟨b3, b4⟩ := b1.mv hm2
  have e1 : w3.cell? ⟨g0, 0, none⟩ = some (.int .i64 (a : Int)) := (World.cell?_of_block b4).trans e0
  have lg3 := b3.1
  have hy : ((S.addW (outW n)).opened S.ws.length false a).ws[S.ws.length]? = some ((outW n).mark false 1) := by
    rw [Ws.opened_of hx]
    show ((S.addW (outW n)).setW S.ws.length ((outW n).mark false 1)).ws[S.ws.length]? = _
    rw [Ws.addW_setW]
    exact Ws.addW_last _ _
  have hwy := (k1.wire _ _ hy).blk
  rw [k2.wa _ (by omega), h3] at hwy
  have w0 := hwy.w0
  have lg4 := hwy.lt
  have HE := Lib.hid (show ∃ L', Wd w3 B L' ((S.addW (outW n)).opened S.ws.length false a) ∧ L.ext L' S.ws.length ∧ Mv w w3 L.F L'.F from
    ⟨L3, k1, h2.trans k2 (by omega), (show Mv w w1 L.F L.F from ⟨Kept.of_below HB.out.2.1, fun _ e => .inl e⟩).trans (h4.trans hm2)⟩)
  clear h1 h2 h3 h4 b1 k1 k2 k3 hm2 b3 b4 hy hwy
  go_wp2_with fail
  go_quiet (fail)
  obtain ⟨q, hq⟩ : ∃ q, q = nq := ⟨_, rfl⟩
  have HQ := Lib.hid (show ∃ L', Wd (w3.drewN nq) B L' ((S.addW (outW n)).opened S.ws.length false a) ∧ L.ext L' S.ws.length ∧ Mv w (w3.drewN nq) L.F L'.F by
    obtain ⟨L', k1, k2, k3⟩ := HE.out
    exact ⟨L', k1.drewN nq, k2, ⟨k3.k.drewN nq, k3.o⟩⟩)
  clear hq
  go_wp2_with fail
  go_ret3
  exact ⟨a, HA.out.1, rfl, HQ.out⟩
end
end Go.Proofs.YtlephnfepofbbaaGreatDoor

/-
  both: a wire with two descriptors; Pair.
-/
namespace Go.Proofs.YtlephnfepofbbaaGreatDoor
open Go.RowKit Go.Maps Go.ChangeMaps

/-- What stands behind so many openings. -/
def bSt (S : Ws) (x : Wi) (a b : Nat) : Nat → Ws
  | 0 => S.addW x
  | 1 => (S.addW x).opened S.ws.length false a
  | _ => ((S.addW x).opened S.ws.length false a).opened S.ws.length true b
theorem opened_len (s : Ws) (i : Nat) (k : Bool) (fd : Nat) : (s.opened i k fd).ws.length = s.ws.length := by
  unfold Ws.opened
  split
  · show (s.setW i _).ws.length = _
    unfold Ws.setW; simp
  · rfl
theorem opened_at {s : Ws} {i : Nat} {x : Wi} (h : s.ws[i]? = some x) (k : Bool) (fd : Nat) : (s.opened i k fd).ws[i]? = some (x.mark k 1) := by
  rw [Ws.opened_of h]
  show (s.setW i (x.mark k 1)).ws[i]? = _
  unfold Ws.setW
  simp [(List.getElem?_eq_some_iff.1 h).1]
theorem bSt_len (S : Ws) (x : Wi) (a b q : Nat) : (bSt S x a b q).ws.length = S.ws.length + 1 := by
  unfold bSt
  split
  · exact Ws.addW_len S x
  · rw [opened_len]; exact Ws.addW_len S x
  · rw [opened_len, opened_len]; exact Ws.addW_len S x
/-- What a call that makes a wire with two descriptors leaves. -/
def Made2 (w : World) (B : Nat) (L : Lay) (S : Ws) (x : Wi) (e : Ending) (w' : World) : Prop := ∃ a b : Nat, S.frees[0]? = some a ∧ S.frees[1]? = some b ∧ e = .returned (.tuple #[.int .i64 (a : Int), .int .i64 (b : Int), .int .i64 0]) ∧
  ∃ L', Wd w' B L' (bSt S x a b 2) ∧ L.ext L' S.ws.length ∧ Mv w w' L.F L'.F
/-- Between two openings. -/
def BoI (w2 : World) (B : Nat) (L2 : Lay) (S : Ws) (x : Wi) (a b q : Nat) (W : World) : Prop := ∃ L', Wd W B L' (bSt S x a b q) ∧ L2.ext L' (S.ws.length + 1) ∧ Mv w2 W L2.F L'.F

section
variable {w w' : World} {B : Nat} {L : Lay} {S : Ws}
end
end Go.Proofs.YtlephnfepofbbaaGreatDoor

/-
  New; Write and Read.
-/
namespace Go.Proofs.YtlephnfepofbbaaGreatDoor
open Go.RowKit Go.Maps Go.ChangeMaps
open Classical

def Ws.new : Ws := ⟨0, [], fun _ => none, T.new, none⟩
theorem Ws.setW_id {s : Ws} {i : Nat} {x : Wi} (h : s.ws[i]? = some x) : s.setW i x = s := by
  unfold Ws.setW
  have : s.ws.set i x = s.ws := by
    apply List.ext_getElem?
    intro j
    rw [List.getElem?_set]
    split
    · rename_i e; subst e
      rw [if_pos (List.getElem?_eq_some_iff.1 h).1, h]
    · rfl
  rw [this]
def Wi.write (x : Wi) (k : Bool) (zs : List Int) : Int × Int × Wi :=
  if (x.e (!k)).can = false then (0, 111, x) else if x.reset = true then (0, 115, x) else if (x.e k).shut = true ∨ x.noReader k = true then (0, 114, x)
  else if 0 < zs.length ∧ x.cap - (x.e (!k)).bs.length = 0 then (0, 113, x) else (x.room (!k) zs.length, 0, x.fill (!k) zs)
/-- What is read, whether it is the end, the error; and the wire then. -/
def Wi.read (x : Wi) (k : Bool) (m : Int) : List Int × Bool × Int × Wi :=
  if (x.e k).can = false then ([], false, 111, x) else if m < 1 then ([], false, 2, x) else if x.reset = true then ([], false, 115, x)
  else if 0 < (x.e k).bs.length then ((x.e k).bs.take m.toNat, false, 0, x.drain k m.toNat) else if x.noWriter k = true then ([], true, 0, x) else ([], false, 113, x)

section
variable {w w' : World} {B : Nat} {L : Lay} {S : Ws}
/-- A wire of a world turned, or not. -/
def Turned (w : World) (B : Nat) (L : Lay) (S : Ws) (i : Nat) (y : Wi) (w' : World) : Prop := ∃ L', Wd w' B L' (S.setW i y) ∧ L.ext L' S.ws.length ∧ Mv w w' L.F L'.F
theorem Turned.none (h : Wd w B L S) {i : Nat} {x : Wi} (hx : S.ws[i]? = some x) (q : Nat) : Turned w B L S i x (w.drewN q) := ⟨L, by rw [Ws.setW_id hx]; exact h.drewN q, Lay.ext.refl _ _, ⟨(Kept.refl _ w).drewN q, fun _ e => .inl e⟩⟩
theorem Turned.of_wire (h : Wd w B L S) {i : Nat} {x y : Wi} (hx : S.ws[i]? = some x) (q : Nat) {F' : Bool → Nat → Prop} (hw : Wr w' B (L.wa i) i (L.rr i) F' (L.wt i) y) (m : Mv (w.drewN q) w' (FW (L.wa i) (L.G i)) (FW (L.wa i) F')) (hwt : y.wait = x.wait) : Turned w B L S i y w' := by
  obtain ⟨L', h1, h2, h3, _⟩ := (h.drewN q).wire1 hx hw m hwt
  exact ⟨L', h1, h2, ⟨((Kept.refl L.F w).drewN q).trans h3.k, h3.o⟩⟩
/-- .. without a block more. -/
def Turned0 (w : World) (B : Nat) (L : Lay) (S : Ws) (i : Nat) (y : Wi) (w' : World) : Prop := ∃ L', Wd w' B L' (S.setW i y) ∧ L.ext L' S.ws.length ∧ Mv w w' L.F L'.F ∧ ∀ b, L'.F b → L.F b
theorem Turned0.none (h : Wd w B L S) {i : Nat} {x : Wi} (hx : S.ws[i]? = some x) (q : Nat) : Turned0 w B L S i x (w.drewN q) := ⟨L, by rw [Ws.setW_id hx]; exact h.drewN q, Lay.ext.refl _ _, ⟨(Kept.refl _ w).drewN q, fun _ e => .inl e⟩, fun _ e => e⟩
theorem Turned0.of_wire (h : Wd w B L S) {i : Nat} {x y : Wi} (hx : S.ws[i]? = some x) (q : Nat) {F' : Bool → Nat → Prop} (hw : Wr w' B (L.wa i) i (L.rr i) F' (L.wt i) y) (m : Mv (w.drewN q) w' (FW (L.wa i) (L.G i)) (FW (L.wa i) F')) (h0 : ∀ b, FW (L.wa i) F' b → FW (L.wa i) (L.G i) b) (hwt : y.wait = x.wait) : Turned0 w B L S i y w' := by
  obtain ⟨L', h1, h2, h3, h4⟩ := (h.drewN q).wire1 hx hw m hwt
  have hi := (List.getElem?_eq_some_iff.1 hx).1
  refine ⟨L', h1, h2, ⟨((Kept.refl L.F w).drewN q).trans h3.k, h3.o⟩, fun b hb => ?_⟩
  rcases h4 b hb with h5 | h5
  · exact h5
  · rcases h0 b h5 with rfl | ⟨k, hk⟩
    · exact ⟨_, h.owire i hi⟩
    · exact ⟨_, hk⟩
theorem Wi.fill_wait (x : Wi) (k : Bool) (zs : List Int) : (x.fill k zs).wait = x.wait := by
  unfold Wi.fill Wi.rdRise
  repeat' split
  all_goals rfl
theorem Wi.drain_wait (x : Wi) (k : Bool) (n : Nat) : (x.drain k n).wait = x.wait := by
  unfold Wi.drain Wi.wrRise
  repeat' split
  all_goals rfl
theorem Wd.FWF (h : Wd w B L S) {i : Nat} (hi : i < S.ws.length) {b : Nat} (hb : FW (L.wa i) (L.G i) b) : L.F b := by
  rcases hb with rfl | ⟨k, hk⟩
  · exact ⟨_, h.owire i hi⟩
  · exact ⟨_, hk⟩
theorem Src.less {F G : Nat → Prop} {v : Value} {zs : List Int} (h : Src w F v zs) (hG : ∀ b, G b → F b) : Src w G v zs := by
  obtain ⟨A, c, h1, h2, h3, h4⟩ := h
  exact ⟨A, c, h1, h2, h3, fun h0 => by obtain ⟨b, o, e1, e2, e3, e4⟩ := h4 h0; exact ⟨b, o, e1, e2, fun e => e3 (hG b e), e4⟩⟩

theorem Src.drewN {F : Nat → Prop} {v : Value} {zs : List Int} (h : Src w F v zs) (q : Nat) : Src (w.drewN q) F v zs := h

/-- What Read answers. -/
def ReadOut (w : World) (B : Nat) (L : Lay) (S : Ws) (i : Nat) (r : List Int × Bool × Int × Wi) (e : Ending) (w' : World) : Prop := ∃ v, e = .returned (.tuple #[v, .bool r.2.1, .int .i64 r.2.2.1]) ∧ RowB w' w.heap.size v r.1 ∧ Turned0 w B L S i r.2.2.2 w'
theorem RowB.drewN {v : Value} {xs : List Int} (h : RowB w B v xs) (q : Nat) : RowB (w.drewN q) B v xs := h.same fun _ _ => rfl
end
end Go.Proofs.YtlephnfepofbbaaGreatDoor

/-
  What comes from outside: Put, Take, PeerShut; Ready; New.
-/
namespace Go.Proofs.YtlephnfepofbbaaGreatDoor
open Go.RowKit Go.Maps Go.ChangeMaps
open Classical

def Wi.putO (x : Wi) (zs : List Int) : Int × Int × Wi :=
  if x.reset = true then (0, 115, x) else if (x.e true).shut = true ∨ x.noReader true = true then (0, 114, x) else (x.room false zs.length, 0, x.fill false zs)
def Wi.takeO (x : Wi) (m : Int) : List Int × Int × Wi :=
  if m < 0 then ([], 2, x) else if x.reset = true then ([], 115, x) else ((x.e true).bs.take m.toNat, 0, x.drain true m.toNat)

section
variable {w w' : World} {B : Nat} {L : Lay} {S : Ws}
set_option maxHeartbeats 4000000 in
theorem wPut_any (h : Wd w B L S) {n : Int} {x : Wi} (ho : S.outer n = some x) (hcan : (x.e false).can = true) (vz : Value) (zs : List Int) (hz : Src w L.F vz zs) (hN : x.le 900000000) :
    Calls Tryz.prog 26 #[.pointer (some ⟨L.p, 0, none⟩), .int .i64 n, vz] w fun e w' =>
      e = .returned (.tuple #[.int .i64 (x.putO zs).1, .int .i64 (x.putO zs).2.1]) ∧ Turned w B L S n.toNat (x.putO zs).2.2 w' := by
  obtain ⟨i, rfl, hx, his⟩ := Ws.outer_some ho
  have hi := (List.getElem?_eq_some_iff.1 hx).1
  have hwr := h.wire i x hx
  have HF := Lib.hid (outer_yes h ho)
  rw [Int.toNat_natCast] at HF
  rw [Int.toNat_natCast]
  have HNR := Lib.hid (fun q => noReader_any (hwr.blk.drewN q) true)
  have HO := Lib.hid (fun q => other_any (hwr.blk.drewN q) true)
  have H := Lib.hid (And.intro h hx)
  have c0 := hwr.blk.c0 true
  have w15 := hwr.blk.w15
  have c3 := hwr.blk.c3 true
  have lg := hwr.blk.lt
  have HT := Lib.hid (fun q => Turned.none h hx q)
  have HFL := Lib.hid (fun (q : Nat) => fill_any ((hwr.drewN_ q)) false hcan vz zs ((hz.less fun b hb => h.FWF hi hb).drewN q) hN)
  obtain ⟨A, c, rfl, hc1, hc2, hsrc⟩ := id hz
  obtain ⟨g, hg⟩ : ∃ g, g = L.wa i := ⟨_, rfl⟩
  have HG := Lib.hid hg
  rw [← hg] at HF HNR HO c0 w15 c3 lg HFL
  rw [off_t] at HNR HO c0 c3
  rw [show off (!true) = 1 from rfl] at HO
  rw [off_f] at HFL
  cases hrs : x.reset with
  | true =>
    have hq : x.putO zs = (0, 115, x) := by unfold Wi.putO; rw [if_pos hrs]
    rw [hq]
    rw [hrs] at w15
    clear h hx hwr hz hsrc hcan hq hN hg hrs ho his hi
    go_enter Tryz.func26, Tryz.ntmps26
    go_wp2_with fail
    refine HF.out.mono ?_
    rintro e w1 ⟨rfl, rfl⟩
    go_wp2_with fail
    go_ret2
    exact ⟨rfl, HT.out 0⟩
  | false =>
    rw [hrs] at w15
    cases hsh : (x.e true).shut with
    | true =>
      have hq : x.putO zs = (0, 114, x) := by unfold Wi.putO; rw [if_neg (by simp [hrs]), if_pos (.inl hsh)]
      rw [hq]
      rw [hsh] at c3
      clear h hx hwr hz hsrc hcan hq hN hg hrs ho his hi hsh
      go_enter Tryz.func26, Tryz.ntmps26
      go_wp2_with fail
      refine HF.out.mono ?_
      rintro e w1 ⟨rfl, rfl⟩
      go_wp2_with fail
      go_ret2
      exact ⟨rfl, HT.out 0⟩
    | false =>
      rw [hsh] at c3
      cases hnr : x.noReader true with
      | true =>
        have hq : x.putO zs = (0, 114, x) := by unfold Wi.putO; rw [if_neg (by simp [hrs]), if_pos (.inr hnr)]
        rw [hq]
        rw [hnr] at HNR
        clear h hx hwr hz hsrc hcan hq hN hg hrs ho his hi hsh hnr
        go_enter Tryz.func26, Tryz.ntmps26
        go_wp2_with fail
        refine HF.out.mono ?_
        rintro e w1 ⟨rfl, rfl⟩
        go_wp2_with fail
        refine (HNR.out 0).mono ?_
        rintro e w1 ⟨rfl, m2, rfl⟩
        rw [World.drewN_drewN]
        go_wp2_with fail
        go_ret2
        exact ⟨rfl, HT.out _⟩
      | false =>
        have hq : x.putO zs = ((x.room false zs.length : Int), 0, x.fill false zs) := by unfold Wi.putO; rw [if_neg (by simp [hrs]), if_neg (by simp [hsh, hnr])]
        rw [hq]
        rw [hnr] at HNR
        clear h hx hwr hz hsrc hcan hq hN hg hrs ho his hi hsh hnr
        go_enter Tryz.func26, Tryz.ntmps26
        go_wp2_with fail
        refine HF.out.mono ?_
        rintro e w1 ⟨rfl, rfl⟩
        go_wp2_with fail
        refine (HNR.out 0).mono ?_
        rintro e w1 ⟨rfl, m2, rfl⟩
        rw [World.drewN_drewN]
        go_wp2_with fail
        refine (HO.out _).mono ?_
        rintro e w1 ⟨rfl, m5, rfl⟩
        rw [World.drewN_drewN]
        go_wp2_with fail
        refine (HFL.out _).mono ?_
        rintro e w2 ⟨rfl, F', hw2, hm2⟩
        have HE := Lib.hid (Turned.of_wire H.out.1 H.out.2 _ (HG.out ▸ hw2) (HG.out ▸ hm2) (Wi.fill_wait _ _ _))
        clear hw2 hm2
        go_wp2_with fail
        go_ret2
        exact ⟨rfl, HE.out⟩

/-- What Take answers. -/
def TakeOut (w : World) (B : Nat) (L : Lay) (S : Ws) (i : Nat) (r : List Int × Int × Wi) (e : Ending) (w' : World) : Prop := ∃ v, e = .returned (.tuple #[v, .int .i64 r.2.1]) ∧ RowB w' w.heap.size v r.1 ∧ Turned0 w B L S i r.2.2 w'
set_option maxHeartbeats 4000000 in
theorem wTake_any (h : Wd w B L S) {n : Int} {x : Wi} (ho : S.outer n = some x) (hcan : (x.e true).can = true) (m : Int) (hm : -9223372036854775808 ≤ m ∧ m ≤ 9223372036854775807) (hN : x.le 900000000) :
    Calls Tryz.prog 27 #[.pointer (some ⟨L.p, 0, none⟩), .int .i64 n, .int .i64 m] w (TakeOut w B L S n.toNat (x.takeO m)) := by
  obtain ⟨i, rfl, hx, his⟩ := Ws.outer_some ho
  have hi := (List.getElem?_eq_some_iff.1 hx).1
  have hwr := h.wire i x hx
  have HF := Lib.hid (outer_yes h ho)
  rw [Int.toNat_natCast] at HF
  rw [Int.toNat_natCast]
  have H := Lib.hid (And.intro h hx)
  have c0 := hwr.blk.c0 true
  have w15 := hwr.blk.w15
  have lg := hwr.blk.lt
  have HT := Lib.hid (fun (xs : List Int) (c : Int) (q : Nat) (hxs : xs = []) => show TakeOut w B L S i (xs, c, x) (.returned (.tuple #[.slice none 0 0, .int .i64 c])) (w.drewN q) from ⟨_, rfl, .inl ⟨rfl, hxs⟩, Turned0.none h hx q⟩)
  have HDR := Lib.hid (drain_any hwr true hcan m hm hN)
  obtain ⟨g, hg⟩ : ∃ g, g = L.wa i := ⟨_, rfl⟩
  have HG := Lib.hid hg
  rw [← hg] at HF c0 w15 lg HDR
  rw [off_t] at c0 HDR
  by_cases h1 : m < 0
  · have hq : x.takeO m = ([], 2, x) := by unfold Wi.takeO; rw [if_pos h1]
    rw [hq]
    clear h hx hwr hcan hq hN hg ho his hi
    go_enter Tryz.func27, Tryz.ntmps27
    go_wp2_with fail
    refine HF.out.mono ?_
    rintro e w1 ⟨rfl, rfl⟩
    go_wp2_with fail
    go_ret2
    exact HT.out _ _ 0 rfl
  · cases hrs : x.reset with
    | true =>
      have hq : x.takeO m = ([], 115, x) := by unfold Wi.takeO; rw [if_neg h1, if_pos hrs]
      rw [hq]
      rw [hrs] at w15
      clear h hx hwr hcan hq hN hg ho his hi hrs
      go_enter Tryz.func27, Tryz.ntmps27
      go_wp2_with fail
      refine HF.out.mono ?_
      rintro e w1 ⟨rfl, rfl⟩
      go_wp2_with fail
      go_ret2
      exact HT.out _ _ 0 rfl
    | false =>
      have hq : x.takeO m = ((x.e true).bs.take m.toNat, 0, x.drain true m.toNat) := by unfold Wi.takeO; rw [if_neg h1, if_neg (by simp [hrs])]
      rw [hq]
      rw [hrs] at w15
      obtain ⟨xs, hxs⟩ : ∃ xs, xs = (x.e true).bs.take m.toNat := ⟨_, rfl⟩
      rw [← hxs]
      rw [← hxs] at HDR
      clear h hx hwr hcan hq hN hg ho his hi hrs hxs
      go_enter Tryz.func27, Tryz.ntmps27
      go_wp2_with fail
      refine HF.out.mono ?_
      rintro e w1 ⟨rfl, rfl⟩
      go_wp2_with fail
      refine HDR.out.mono ?_
      rintro e w2 ⟨u, F', rfl, hu, hw2, hm2, hm3⟩
      obtain ⟨A, hv, _⟩ := hu.form
      have HE := Lib.hid (And.intro hu (Turned0.of_wire H.out.1 H.out.2 0 (HG.out ▸ hw2) (HG.out ▸ hm2) (HG.out ▸ hm3) (Wi.drain_wait _ _ _)))
      subst hv
      clear hu hw2 hm2 hm3
      go_wp2_with fail
      go_ret2
      exact ⟨_, rfl, HE.out.1, HE.out.2⟩

theorem Wi.stop_wait (x : Wi) (k : Bool) : (x.stop k).wait = x.wait := by
  unfold Wi.stop Wi.rdRise
  repeat' split
  all_goals rfl
theorem wPeerShut_any (h : Wd w B L S) {n : Int} {x : Wi} (ho : S.outer n = some x) (hN : x.le 900000000) :
    Calls Tryz.prog 28 #[.pointer (some ⟨L.p, 0, none⟩), .int .i64 n] w fun e w' => e = .returned (.int .i64 0) ∧ Turned w B L S n.toNat (x.stop true) w' := by
  obtain ⟨i, rfl, hx, his⟩ := Ws.outer_some ho
  have hi := (List.getElem?_eq_some_iff.1 hx).1
  have hwr := h.wire i x hx
  have HF := Lib.hid (outer_yes h ho)
  rw [Int.toNat_natCast] at HF
  rw [Int.toNat_natCast]
  have H := Lib.hid (And.intro h hx)
  have HS := Lib.hid (stop_any hwr.blk true (hN.mono (by omega)))
  rw [off_t] at HS
  clear h hx hwr hN ho his hi
  go_enter Tryz.func28, Tryz.ntmps28
  go_wp2_with fail
  refine HF.out.mono ?_
  rintro e w1 ⟨rfl, rfl⟩
  go_wp2_with fail
  refine HS.out.mono ?_
  rintro e w1 ⟨rfl, h1, h2⟩
  have HE := Lib.hid (show Turned w B L S i (x.stop true) w1 from H.out.1.turnW H.out.2 h1 h2 (Wi.sameR_stop x true) (Wi.stop_wait x true))
  clear h1 h2
  go_wp2_with fail
  go_ret
  exact ⟨rfl, HE.out⟩

/-- A new world's layout. -/
noncomputable def Lay.new (sb kb p : Nat) : Lay := ⟨p, kb, sb, .slice none 0 0, fun _ => 0, fun _ => .slice none 0 0, fun _ _ => 0, fun x => if x = p then some .top else if x = kb then some .kept else if x = sb then some .sig else none⟩
theorem Lay.new_own {sb kb p x : Nat} {t : Tg} (h : (Lay.new sb kb p).own x = some t) : (x = p ∧ t = .top) ∨ (x = kb ∧ t = .kept) ∨ (x = sb ∧ t = .sig) := by
  have h' : (if x = p then some Tg.top else if x = kb then some .kept else if x = sb then some .sig else none) = some t := h
  split at h'
  · cases h'; exact .inl ⟨by assumption, rfl⟩
  · split at h'
    · cases h'; exact .inr (.inl ⟨by assumption, rfl⟩)
    · split at h'
      · cases h'; exact .inr (.inr ⟨by assumption, rfl⟩)
      · cases h'
set_option maxRecDepth 100000 in
theorem cellsK_new (b : Nat) : cellsK 0 (.slice none 0 0) (fun _ => none) (.pointer (some ⟨b, 0, none⟩)) (.pointer none) = (#[.int .u64 0, .slice none 0 0, .pointer none, .pointer none, .pointer none, .pointer none, .pointer none, .pointer none, .pointer none, .pointer none, .pointer none, .pointer none, .pointer none, .pointer none, .pointer none, .pointer none, .pointer none, .pointer none, .pointer none, .pointer none, .pointer none, .pointer none, .pointer none, .pointer none, .pointer none, .pointer none, .pointer none, .pointer none, .pointer none, .pointer none, .pointer none, .pointer none, .pointer none, .pointer none, .pointer none, .pointer none, .pointer none, .pointer none, .pointer none, .pointer none, .pointer none, .pointer none, .pointer none, .pointer none, .pointer none, .pointer none, .pointer none, .pointer none, .pointer none, .pointer none, .pointer none, .pointer none, .pointer none, .pointer none, .pointer none, .pointer none, .pointer none, .pointer none, .pointer none, .pointer none, .pointer none, .pointer none, .pointer none, .pointer none, .pointer none, .pointer none, .pointer none, .pointer none, .pointer none, .pointer none, .pointer none, .pointer none, .pointer none, .pointer none, .pointer none, .pointer none, .pointer none, .pointer none, .pointer none, .pointer none, .pointer none, .pointer none, .pointer none, .pointer none, .pointer none, .pointer none, .pointer none, .pointer none, .pointer none, .pointer none, .pointer none, .pointer none, .pointer none, .pointer none, .pointer none, .pointer none, .pointer none, .pointer none, .pointer (some ⟨b, 0, none⟩), .pointer none] : Array Value) := by rfl
theorem Wd.fresh {w1 : World} {b : Nat} (ht : Tb w1 b T.new) (hB : B ≤ b) : Wd ((w1.alloc (.cells (cellsK 0 (.slice none 0 0) (fun _ => none) (.pointer (some ⟨b, 0, none⟩)) (.pointer none)) 66)).alloc (.cells #[.pointer (some ⟨w1.heap.size, 0, none⟩)] 68)) B (Lay.new b w1.heap.size (w1.heap.size + 1)) Ws.new := by
  have hlb := ht.lt
  have s1 : (w1.alloc (.cells (cellsK 0 (.slice none 0 0) (fun _ => none) (.pointer (some ⟨b, 0, none⟩)) (.pointer none)) 66)).heap.size = w1.heap.size + 1 := World.size_alloc _ _
  have hk := (Blk.new w1 66 (cellsK 0 (.slice none 0 0) (fun _ => none) (.pointer (some ⟨b, 0, none⟩)) (.pointer none))).alloc (.cells #[.pointer (some ⟨w1.heap.size, 0, none⟩)] 68)
  have hp := Blk.new (w1.alloc (.cells (cellsK 0 (.slice none 0 0) (fun _ => none) (.pointer (some ⟨b, 0, none⟩)) (.pointer none)) 66)) 68 #[.pointer (some ⟨w1.heap.size, 0, none⟩)]
  rw [s1] at hp
  refine ⟨hp, hk, (ht.alloc _).alloc _, RowK.own_nil _ _, fun i x hx => ?_, fun i x hx => ?_, if_pos rfl, ?_, ?_, fun b' hb' => ?_, fun i hi => ?_, fun x t hx => ?_, ?_, fun fd i k e => ?_, fun i k e => ?_, fun i x hx => ?_, fun x t i hx hi => ?_⟩
  · simp [Ws.new] at hx
  · simp [Ws.new] at hx
  · show (if w1.heap.size = w1.heap.size + 1 then _ else if w1.heap.size = w1.heap.size then _ else _) = _
    rw [if_neg (by omega), if_pos rfl]
  · show (if b = w1.heap.size + 1 then _ else if b = w1.heap.size then _ else if b = b then _ else _) = _
    rw [if_neg (by omega), if_neg (by omega), if_pos rfl]
  · cases hb'
  · simp [Ws.new] at hi
  · rw [World.size_alloc, s1]
    rcases Lay.new_own hx with ⟨rfl, _⟩ | ⟨rfl, _⟩ | ⟨rfl, _⟩ <;> omega
  · rw [World.size_alloc, s1]; omega
  · cases e
  · cases e
  · simp [Ws.new] at hx
  · rcases Lay.new_own hx with ⟨_, rfl⟩ | ⟨_, rfl⟩ | ⟨_, rfl⟩ <;> cases hi
set_option maxRecDepth 100000 in
theorem zero_kept (w : World) : (zeroValue 66).run Tryz.prog w = .ok (.agg #[.int .u64 0, .slice none 0 0, .pointer none, .pointer none, .pointer none, .pointer none, .pointer none, .pointer none, .pointer none, .pointer none, .pointer none, .pointer none, .pointer none, .pointer none, .pointer none, .pointer none, .pointer none, .pointer none, .pointer none, .pointer none, .pointer none, .pointer none, .pointer none, .pointer none, .pointer none, .pointer none, .pointer none, .pointer none, .pointer none, .pointer none, .pointer none, .pointer none, .pointer none, .pointer none, .pointer none, .pointer none, .pointer none, .pointer none, .pointer none, .pointer none, .pointer none, .pointer none, .pointer none, .pointer none, .pointer none, .pointer none, .pointer none, .pointer none, .pointer none, .pointer none, .pointer none, .pointer none, .pointer none, .pointer none, .pointer none, .pointer none, .pointer none, .pointer none, .pointer none, .pointer none, .pointer none, .pointer none, .pointer none, .pointer none, .pointer none, .pointer none, .pointer none, .pointer none, .pointer none, .pointer none, .pointer none, .pointer none, .pointer none, .pointer none, .pointer none, .pointer none, .pointer none, .pointer none, .pointer none, .pointer none, .pointer none, .pointer none, .pointer none, .pointer none, .pointer none, .pointer none, .pointer none, .pointer none, .pointer none, .pointer none, .pointer none, .pointer none, .pointer none, .pointer none, .pointer none, .pointer none, .pointer none, .pointer none, .pointer none, .pointer none]) w := by kernel_rfl
set_option maxRecDepth 100000 in
set_option maxHeartbeats 1000000 in
theorem wNew_any (w : World) (B : Nat) (hB : B ≤ w.heap.size) : Calls Tryz.prog 7 #[] w fun e w' => ∃ L, e = .returned (.pointer (some ⟨L.p, 0, none⟩)) ∧ Wd w' B L Ws.new ∧ Below w.heap.size w w' ∧ ∀ b, L.F b → w.heap.size ≤ b := by
  have HN := Lib.hid (new_any w)
  go_enter Tryz.func7, Tryz.ntmps7
  go_wp2_with fail
  refine HN.out.mono ?_
  rintro e w1 ⟨rfl, ht, k1⟩
  obtain ⟨b, hb⟩ : ∃ b, b = w.heap.size := ⟨_, rfl⟩
  rw [← hb] at ht ⊢
  have hkk := k1.size
  have hl := ht.lt
  have HE := Lib.hid (show ∃ L : Lay, L.p = w1.heap.size + 1 ∧ Wd ((w1.alloc (.cells (cellsK 0 (.slice none 0 0) (fun _ => none) (.pointer (some ⟨b, 0, none⟩)) (.pointer none)) 66)).alloc (.cells #[.pointer (some ⟨w1.heap.size, 0, none⟩)] 68)) B L Ws.new ∧ Below w.heap.size w ((w1.alloc (.cells (cellsK 0 (.slice none 0 0) (fun _ => none) (.pointer (some ⟨b, 0, none⟩)) (.pointer none)) 66)).alloc (.cells #[.pointer (some ⟨w1.heap.size, 0, none⟩)] 68)) ∧ ∀ x, L.F x → w.heap.size ≤ x from
    ⟨Lay.new b w1.heap.size (w1.heap.size + 1), rfl, Wd.fresh ht (by omega), ((k1.alloc _).alloc _).below (fun _ e => e.elim) (Nat.le_refl _), fun x ⟨t, hx⟩ => by
      rcases Lay.new_own hx with ⟨rfl, _⟩ | ⟨rfl, _⟩ | ⟨rfl, _⟩ <;> omega⟩)
  rw [cellsK_new] at HE
  clear ht k1 hb hkk
  have hzk := zero_kept w1
  go_wp2_with fail
  go_ret
  obtain ⟨L, e1, e2, e3, e4⟩ := HE.out
  exact ⟨L, (by rw [e1]; rfl), e2, e3, e4⟩
end
end Go.Proofs.YtlephnfepofbbaaGreatDoor

/-
  A world that a law made; the calls of the laws; the chapter's first examples.
-/
namespace Go.Proofs.YtlephnfepofbbaaGreatDoor
open Go.RowKit Go.Maps Go.ChangeMaps

theorem Wi.le_write {x : Wi} {N : Nat} (h : x.le N) (k : Bool) (zs : List Int) : (x.write k zs).2.2.le (N + zs.length + 1) := by
  unfold Wi.write
  repeat' split
  all_goals first | exact h.mono (by omega) | exact Wi.le_fill h _ _
theorem Wi.le_read {x : Wi} {N : Nat} (h : x.le N) (k : Bool) (m : Int) : (x.read k m).2.2.2.le (N + 1) := by
  unfold Wi.read
  repeat' split
  all_goals first | exact h.mono (by omega) | exact Wi.le_drain h _ _
theorem Wi.le_putO {x : Wi} {N : Nat} (h : x.le N) (zs : List Int) : (x.putO zs).2.2.le (N + zs.length + 1) := by
  unfold Wi.putO
  repeat' split
  all_goals first | exact h.mono (by omega) | exact Wi.le_fill h _ _
theorem Wi.le_takeO {x : Wi} {N : Nat} (h : x.le N) (m : Int) : (x.takeO m).2.2.le (N + 1) := by
  unfold Wi.takeO
  repeat' split
  all_goals first | exact h.mono (by omega) | exact Wi.le_drain h _ _

/-- A world that the law made: it lies from B on; W is the law's first world; the blocks of D stand beside it. -/
def Od (B : Nat) (W : World) (p : Nat) (S : Ws) (N : Nat) (D : Nat → Prop) (w : World) : Prop := ∃ L, L.p = p ∧ Wd w B L S ∧ Below B W w ∧ S.le N ∧ ∀ b, D b → Beside w L b
/-- What a call leaves. -/
def OdM (B : Nat) (W : World) (p : Nat) (S : Ws) (N : Nat) (D : Nat → Prop) (w w' : World) : Prop := Od B W p S N D w' ∧ (∀ b, D b → w'.heap[b]? = w.heap[b]?) ∧ w.heap.size ≤ w'.heap.size
section
variable {B : Nat} {W w w' : World} {p : Nat} {S S' : Ws} {N : Nat} {D D' : Nat → Prop}
theorem Wd.belowMv {L L' : Lay} (h : Wd w B L S) (m : Mv w w' L.F L'.F) : Below B w w' := m.below (fun _ hk => (h.ltF hk).2) h.hs
theorem Od.bel (h : Od B W p S N D w) : Below B W w := by obtain ⟨L, _, _, h3, _⟩ := h; exact h3
theorem Od.base (h : Od B W p S N D w) : B ≤ w.heap.size := by obtain ⟨L, _, h2, _, _⟩ := h; exact h2.hs
theorem Od.le (h : Od B W p S N D w) : S.le N := by obtain ⟨L, _, _, _, h4, _⟩ := h; exact h4
theorem Od.more {M : Nat} (h : Od B W p S N D w) (hN : N ≤ M) : Od B W p S M D w := by obtain ⟨L, h1, h2, h3, h4, h5⟩ := h; exact ⟨L, h1, h2, h3, h4.mono hN, h5⟩
theorem Od.less (h : Od B W p S N D w) (hD : ∀ b, D' b → D b) : Od B W p S N D' w := by obtain ⟨L, h1, h2, h3, h4, h5⟩ := h; exact ⟨L, h1, h2, h3, h4, fun b hb => h5 b (hD b hb)⟩
theorem below_drewN2 {B : Nat} {w w' : World} (h : Below B w w') (n : Nat) : Below B w (w'.drewN n) := ⟨h.os, h.tape, h.output, h.size, h.block⟩
theorem Od.drewN (h : Od B W p S N D w) (q : Nat) : Od B W p S N D (w.drewN q) := by obtain ⟨L, h1, h2, h3, h4, h5⟩ := h; exact ⟨L, h1, h2.drewN q, below_drewN2 h3 q, h4, h5⟩
theorem Od.alloc (h : Od B W p S N D w) (o : Obj) : Od B W p S N (fun b => b = w.heap.size ∨ D b) (w.alloc o) := by
  obtain ⟨L, h1, h2, h3, h4, h5⟩ := h
  refine ⟨L, h1, h2.keeps ((Kept.refl (fun _ => False) w).alloc o) (fun _ _ e => e), h3.alloc h2.hs o, h4, fun b hb => ?_⟩
  rcases hb with rfl | hb
  · exact ⟨by simp, fun e => by have := (h2.ltF e).1; omega⟩
  · exact ⟨by have := (h5 b hb).1; simp; omega, (h5 b hb).2⟩
theorem Od.below (h : Od B W p S N D w) (hb : Below w.heap.size w w') : Od B W p S N D w' := by
  obtain ⟨L, h1, h2, h3, h4, h5⟩ := h
  exact ⟨L, h1, h2.below hb, h3.trans (hb.mono h2.hs), h4, fun b hb' => ⟨Nat.lt_of_lt_of_le (h5 b hb').1 hb.size, (h5 b hb').2⟩⟩
theorem Od.lt (h : Od B W p S N D w) {b : Nat} (hb : D b) : b < w.heap.size := by obtain ⟨L, _, _, _, _, h5⟩ := h; exact (h5 b hb).1
/-- A block beside a world is written. -/
theorem Od.wrote (h : Od B W p S N D w) {G : Nat → Prop} (k : Kept G w w') (hG : ∀ b, G b → D b ∧ B ≤ b) : Od B W p S N D w' := by
  obtain ⟨L, h1, h2, h3, h4, h5⟩ := h
  exact ⟨L, h1, h2.keeps k (fun b hb hg => (h5 b (hG b hg).1).2 hb), h3.trans (k.below (fun b hb => (hG b hb).2) h2.hs), h4, fun b hb => ⟨Nat.lt_of_lt_of_le (h5 b hb).1 k.size, (h5 b hb).2⟩⟩
theorem Od.keptM (h : Od B W p S N D w) (k : Kept (fun _ => False) w w') : OdM B W p S N D w w' := ⟨h.below (k.below (fun _ e => e.elim) (Nat.le_refl _)), fun b hb => k.block b (h.lt hb) (fun e => e), k.size⟩
/-- After a call. -/
theorem Od.go {L L' : Lay} (h1 : L.p = p) (h2 : Wd w B L S) (h3 : Below B W w) (h5 : ∀ b, D b → Beside w L b) (k1 : Wd w' B L' S') (k2 : L'.p = L.p) (k3 : Mv w w' L.F L'.F) {M : Nat} (h4 : S'.le M) : OdM B W p S' M D w w' :=
  ⟨⟨L', k2.trans h1, k1, h3.trans (h2.belowMv k3), h4, fun b hb => ((h5 b hb).mv k3).1⟩, fun b hb => ((h5 b hb).mv k3).2, k3.k.size⟩
theorem Od.turned {L : Lay} (h1 : L.p = p) (h2 : Wd w B L S) (h3 : Below B W w) (h4 : S.le N) (h5 : ∀ b, D b → Beside w L b) {i : Nat} {y : Wi} {M : Nat} (ht : Turned w B L S i y w') (hy : y.le M) (hM : N ≤ M) : OdM B W p (S.setW i y) M D w w' := by
  obtain ⟨L', k1, k2, k3⟩ := ht
  exact Od.go h1 h2 h3 h5 k1 k2.p k3 (Ws.le_setW (h4.mono hM) hy)
theorem Od.new (hB : B ≤ w.heap.size) (hb : Below B W w) : Calls Tryz.prog 7 #[] w fun e w' => ∃ p, e = .returned (.pointer (some ⟨p, 0, none⟩)) ∧ Od B W p Ws.new 0 (fun _ => False) w' := by
  refine (wNew_any w B hB).mono ?_
  rintro e w' ⟨L, rfl, h1, h2, _⟩
  exact ⟨L.p, rfl, L, rfl, h1, hb.trans (h2.mono hB), fun i x hx => by simp [Ws.new] at hx, fun _ e => e.elim⟩
/-- What Read leaves in a law. -/
def ReadO (B : Nat) (W : World) (p : Nat) (S : Ws) (N : Nat) (D : Nat → Prop) (i : Nat) (r : List Int × Bool × Int × Wi) (w : World) (e : Ending) (w' : World) : Prop := ∃ v, e = .returned (.tuple #[v, .bool r.2.1, .int .i64 r.2.2.1]) ∧ RowB w' w.heap.size v r.1 ∧ OdM B W p (S.setW i r.2.2.2) (N + 1) D w w' ∧ Od B W p (S.setW i r.2.2.2) (N + 1) (fun b => v.ownBlock = some b ∨ D b) w'
theorem Od.put (h : Od B W p S N D w) {n : Int} {x : Wi} (ho : S.outer n = some x) (hcan : (x.e false).can = true) (vz : Value) (zs : List Int) (hz : Src w (fun b => B ≤ b) vz zs) (hN : N ≤ 900000000) {r : Int × Int × Wi} (hr : x.putO zs = r) :
    Calls Tryz.prog 26 #[.pointer (some ⟨p, 0, none⟩), .int .i64 n, vz] w fun e w' =>
      e = .returned (.tuple #[.int .i64 r.1, .int .i64 r.2.1]) ∧ OdM B W p (S.setW n.toNat r.2.2) (N + zs.length + 1) D w w' := by
  subst hr
  obtain ⟨L, rfl, h2, h3, h4, h5⟩ := h
  obtain ⟨i, e, hx, _⟩ := Ws.outer_some ho
  refine (wPut_any h2 ho hcan vz zs (hz.less fun b hb => (h2.ltF hb).2) ((h4 i x hx).mono hN)).mono ?_
  rintro e w' ⟨rfl, ht⟩
  exact ⟨rfl, Od.turned rfl h2 h3 h4 h5 ht (Wi.le_putO (h4 i x hx) zs) (by omega)⟩
/-- What Take leaves in a law. -/
def TakeO (B : Nat) (W : World) (p : Nat) (S : Ws) (N : Nat) (D : Nat → Prop) (i : Nat) (r : List Int × Int × Wi) (w : World) (e : Ending) (w' : World) : Prop := ∃ v, e = .returned (.tuple #[v, .int .i64 r.2.1]) ∧ RowB w' w.heap.size v r.1 ∧ OdM B W p (S.setW i r.2.2) (N + 1) D w w' ∧ Od B W p (S.setW i r.2.2) (N + 1) (fun b => v.ownBlock = some b ∨ D b) w'
theorem Od.take (h : Od B W p S N D w) {n : Int} {x : Wi} (ho : S.outer n = some x) (hcan : (x.e true).can = true) (m : Int) (hm : -9223372036854775808 ≤ m ∧ m ≤ 9223372036854775807) (hN : N ≤ 900000000) {r : List Int × Int × Wi} (hr : x.takeO m = r) :
    Calls Tryz.prog 27 #[.pointer (some ⟨p, 0, none⟩), .int .i64 n, .int .i64 m] w (TakeO B W p S N D n.toNat r w) := by
  subst hr
  obtain ⟨L, rfl, h2, h3, h4, h5⟩ := h
  obtain ⟨i, e, hx, _⟩ := Ws.outer_some ho
  refine (wTake_any h2 ho hcan m hm ((h4 i x hx).mono hN)).mono ?_
  rintro e w' ⟨v, rfl, hv, L', k1, k2, k3, k4⟩
  have hle : (S.setW n.toNat (x.takeO m).2.2).le (N + 1) := Ws.le_setW (h4.mono (by omega : N ≤ N + 1)) (Wi.le_takeO (h4 i x hx) m)
  refine ⟨v, rfl, hv, Od.go rfl h2 h3 h5 k1 k2.p k3 hle, L', k2.p, k1, h3.trans (h2.belowMv k3), hle, fun b hb => ?_⟩
  rcases hb with hb | hb
  · exact ⟨(hv.lt hb).1, fun e => by have := (h2.ltF (k4 b e)).1; have := (hv.lt hb).2; omega⟩
  · exact ((h5 b hb).mv k3).1
theorem Od.peerShut (h : Od B W p S N D w) {n : Int} {x : Wi} (ho : S.outer n = some x) (hN : N ≤ 900000000) :
    Calls Tryz.prog 28 #[.pointer (some ⟨p, 0, none⟩), .int .i64 n] w fun e w' => e = .returned (.int .i64 0) ∧ OdM B W p (S.setW n.toNat (x.stop true)) (N + 1) D w w' := by
  obtain ⟨L, rfl, h2, h3, h4, h5⟩ := h
  obtain ⟨i, e, hx, _⟩ := Ws.outer_some ho
  refine (wPeerShut_any h2 ho ((h4 i x hx).mono hN)).mono ?_
  rintro e w' ⟨rfl, ht⟩
  exact ⟨rfl, Od.turned rfl h2 h3 h4 h5 ht (Wi.le_stop (h4 i x hx) true) (by omega)⟩
theorem Ws.le_opened {s : Ws} {i : Nat} (h : s.le N) (k : Bool) (fd : Nat) : (s.opened i k fd).le N := by
  unfold Ws.opened
  split
  · rename_i x hx
    exact Ws.le_setW h (Wi.le_mark (h i x hx) k 1)
  · exact h
theorem Od.outer (h : Od B W p S N D w) (n : Nat) (hn : 1 ≤ n) (hm : n ≤ 65536) (hw : S.ws.length < 1000) {fd : Nat} (hf : S.frees[0]? = some fd) :
    Calls Tryz.prog 21 #[.pointer (some ⟨p, 0, none⟩), .int .i64 (n : Int)] w fun e w' => e = .returned (.tuple #[.int .i64 (fd : Int), .int .i64 (S.ws.length : Int), .int .i64 0]) ∧ OdM B W p ((S.addW (outW n)).opened S.ws.length false fd) N D w w' := by
  obtain ⟨L, rfl, h2, h3, h4, h5⟩ := h
  refine (wOuter_ok h2 n hn hm hw (by have := (List.getElem?_eq_some_iff.1 hf).1; omega)).mono ?_
  rintro e w' ⟨fd', hf', rfl, L', k1, k2, k3⟩
  rw [hf] at hf'
  cases hf'
  exact ⟨rfl, Od.go rfl h2 h3 h5 k1 k2.p k3 (Ws.le_opened (Ws.le_addW h4 (Wi.le_mark (Wi.le_new n 2 N) true 2)) _ _)⟩
/-- Bytes that were laid just now. -/
theorem Od.putC (h : Od B W p S N D w) {n : Int} {x : Wi} (ho : S.outer n = some x) (hcan : (x.e false).can = true) (zs : List Int) (mk : Nat × Nat) (hl : zs.length ≤ 1000000) (hN : N ≤ 900000000) {r : Int × Int × Wi} (hr : x.putO zs = r) :
    Calls Tryz.prog 26 #[.pointer (some ⟨p, 0, none⟩), .int .i64 n, .slice (some ⟨w.heap.size, 0, none⟩) zs.length zs.length] (w.alloc (.cells (encB zs).toArray 5 mk)) fun e w' =>
      e = .returned (.tuple #[.int .i64 r.1, .int .i64 r.2.1]) ∧ OdM B W p (S.setW n.toNat r.2.2) (N + zs.length + 1) D w w' := by
  subst hr
  have hD := h.alloc (.cells (encB zs).toArray 5 mk)
  have hlt := fun b (hb : D b) => h.lt hb
  obtain ⟨L, rfl, h2, h3, h4, h5⟩ := h
  obtain ⟨i, e, hx, _⟩ := Ws.outer_some ho
  have hk := (Kept.refl (fun _ => False) w).alloc (.cells (encB zs).toArray 5 mk)
  have h2' := h2.keeps hk (fun _ _ e => e)
  refine (wPut_any h2' ho hcan _ zs (src_const w (fun _ hk => (h2.ltF hk).1) zs mk (by omega)) ((h4 i x hx).mono hN)).mono ?_
  rintro e w' ⟨rfl, ht⟩
  obtain ⟨q1, q2, q3⟩ := Od.turned (D := D) rfl h2' (h3.alloc h2.hs _) h4 (fun b hb => ⟨by have := (h5 b hb).1; simp; omega, (h5 b hb).2⟩) ht (Wi.le_putO (h4 i x hx) zs) (by omega : N ≤ N + zs.length + 1)
  exact ⟨rfl, q1, fun b hb => (q2 b hb).trans (hk.block b (hlt b hb) (fun e => e)), Nat.le_trans hk.size q3⟩
end

/-- A world with one outer wire. -/
def S1 (x : Wi) : Ws := ⟨0, [x], fun f => if f = 0 then some (0, false) else none, T.new, none⟩
theorem S1_outer (n : Nat) : (Ws.new.addW (outW n)).opened Ws.new.ws.length false 0 = S1 ((outW n).mark false 1) := rfl
theorem S1_set (x y : Wi) : (S1 x).setW 0 y = S1 y := rfl
theorem S1_fd (x : Wi) : (S1 x).fd 0 = some (0, false) := rfl
theorem S1_get (x : Wi) : (S1 x).ws[0]? = some x := rfl
theorem S1_out (x : Wi) (h : (x.e true).is = 2) : (S1 x).outer 0 = some x := Ws.outer_of (S1_get x) h
theorem frees_new : Ws.new.frees[0]? = some 0 := by decide

end Go.Proofs.YtlephnfepofbbaaGreatDoor

/-
  List and Copy: their contracts.
-/
namespace Go.Proofs.YtlephnfepofbbaaGreatDoor
open Go.RowKit

section
variable {w : World} {k : Nat} {s : T}
theorem info47 : (Tryz.prog.info? 115).map (·.size) = some 64 := by kernel_rfl
theorem one_cells (s : T) : ∀ v ∈ cellsT s, v.oneCell' = true := fun v hv => by
  rcases List.mem_append.1 (show v ∈ hList s ++ cList s by simpa [cellsT] using hv) with h | h
  · obtain ⟨i, _, rfl⟩ := List.mem_map.1 h; rfl
  · obtain ⟨i, _, rfl⟩ := List.mem_map.1 h; rfl
theorem list_nil (w : World) : Calls Tryz.prog 55 #[.pointer none] w fun x w' => x = .returned (.slice none 0 0) ∧ w = w' := by
  go_enter Tryz.func55, Tryz.ntmps55
  go_wp2_with fail
  go_ret
  exact ⟨rfl, rfl⟩

/-- Rows of numbers. -/
def RN : RowK Tryz.prog Nat where
  e := 3
  s := 34
  n := 1
  bytes := 8
  zero := .int .i64 0
  enc := fun z => [.int .i64 (z : Int)]
  pos := by decide
  by_ := by decide
  len := fun _ => rfl
  one := fun x u hu => by
    simp at hu
    subst hu; rfl
  und := Tryz.underlying34
  info := by kernel_rfl
  zs := by decide

/-- While a row grows beside a table. -/
structure GrI (w W : World) (k : Nat) (s : T) (v : Value) (xs : List Nat) : Prop where
  t : Tb W k s
  hk : k < w.heap.size
  o : RN.own W w.heap.size v xs
  b : Below w.heap.size w W
theorem GrI.app {W W' : World} {v u : Value} {xs : List Nat} {x : Nat} {o : Obj} (h : GrI w W k s v xs) (hg : (W.alloc o).grownBy W' v.ownBlock) (O : RN.own W' w.heap.size u (xs ++ [x])) : GrI w W' k s u (xs ++ [x]) := by
  have hb : Below w.heap.size w W' := (h.b.alloc h.b.size _).grown hg (by have := h.b.size; simp; omega) (fun i e => (RowK.own_lt h.o e).2)
  refine ⟨h.t.same ((RowK.grown_far hg h.t.lt (fun e => by have := (RowK.own_lt h.o e).2; have := h.hk; omega))), h.hk, O, hb⟩

set_option maxRecDepth 100000 in
set_option maxHeartbeats 2000000 in
theorem list_any (H : Tb w k s) :
    Calls Tryz.prog 55 #[.pointer (some ⟨k, 0, none⟩)] w fun x w' => ∃ v, x = .returned v ∧ RN.own w' w.heap.size v (s.list 32) ∧ Below w.heap.size w w' := by
  have H0 := Lib.hid (show GrI w w k s (.slice none 0 0) (s.list 0) from ⟨H, H.lt, RowK.own_nil _ _, Below.refl _ _⟩)
  clear H
  go_enter Tryz.func55, Tryz.ntmps55
  go_wp2_with fail
  go_loopw [3, 7] (fun u i wr => ∃ n : Nat, i = .int .i64 (n : Int) ∧ n ≤ 32 ∧ GrI w wr k s u (s.list n)) (fun _ i _ => 32 - (intOf i).toNat)
  case atStart => exact ⟨0, rfl, by omega, H0.out⟩
  case round =>
    obtain ⟨n, rfl, hn, G⟩ := hrel
    by_cases hlt : n < 32
    · have b0 : (0 : Int) ≤ (n : Int) := by omega
      have b1 : (n : Int) < 32 := by omega
      have c0 := G.t.h_ hlt
      have lk := G.t.lt
      obtain ⟨A1, n1, k1, hu1⟩ := RowK.own_slice G.o
      subst hu1
      have hl1 := T.list_len s n
      have HG := Lib.hid (And.intro G hl1)
      clear G hl1
      cases hh : s.h n with
      | false =>
        have HE := Lib.hid (show s.list (n + 1) = s.list n by rw [T.list_succ, hh]; rfl)
        rw [hh] at c0
        clear hh
        go_wp2_with fail
        go_roundw
        case rel => exact ⟨n + 1, by go_num, by omega, by rw [HE.out]; exact HG.out.1⟩
        case measure => simp [intOf] <;> omega
      | true =>
        have HE := Lib.hid (show s.list (n + 1) = s.list n ++ [n] by rw [T.list_succ, hh]; rfl)
        rw [hh] at c0
        clear hh
        go_wp2_with (at_builtin; refine RowK.append (R := RN) rfl _ _ rfl w.heap.size (.slice A1 n1 k1) (s.list n) [n] rfl (RowK.own_alloc HG.out.1.o _) (some ⟨wr.heap.size, 0, none⟩) 1 1 rfl rfl (RowK.new_shows (R := RN) wr n 3) (fun e => by cases e) (by have := HG.out.2; simp; omega) (by have := HG.out.1.b.size; simp; omega) ?_; intro u1 w1 O1 hg1 ho1; have G1 := Lib.hid (HG.out.1.app hg1 O1); clear O1 hg1 ho1)
        go_roundw
        case rel => exact ⟨n + 1, by go_num, by omega, by rw [HE.out]; exact G1.out⟩
        case measure => simp [intOf] <;> omega
    · obtain rfl : n = 32 := by omega
      have HG := Lib.hid G
      clear G
      go_wp2_with fail
      go_ret
      exact ⟨_, rfl, HG.out.o, HG.out.b⟩
end
end Go.Proofs.YtlephnfepofbbaaGreatDoor

/-
  Slices of numbers that come in, of any program.
-/
namespace Go.Proofs.YtlephnfepofbbaaGreatDoor
open Go.RowKit

/-- A slice of numbers that came in. -/
def ArgN (kd : IntKind) (lo hi : Int) (w : World) (A : Option Addr) (l : List Int) : Prop :=
  (∀ x ∈ l, lo ≤ x ∧ x ≤ hi) ∧ (0 < l.length → ∃ b off, A = some ⟨b, off, none⟩ ∧ b < w.heap.size ∧ ∀ i x, l[i]? = some x → w.cell? ⟨b, off + i, none⟩ = some (.int kd x))
section
variable {kd : IntKind} {lo hi : Int} {w wr : World} {A : Option Addr} {l : List Int}
theorem ArgN.at_ (h : ArgN kd lo hi w A l) (hb : Below w.heap.size w wr) {k : Nat} (hk : k < l.length) :
    ∃ b off x, A = some ⟨b, off, none⟩ ∧ b < w.heap.size ∧ l[k]? = some x ∧ (lo ≤ x ∧ x ≤ hi) ∧ wr.cell? ⟨b, off + k, none⟩ = some (.int kd x) := by
  obtain ⟨b, off, e, hlt, hc⟩ := h.2 (by omega)
  have hz := List.getElem?_eq_getElem hk
  exact ⟨b, off, _, e, hlt, hz, h.1 _ (List.mem_of_getElem? hz), (hb.cell (p := ⟨b, _, none⟩) hlt).trans (hc k _ hz)⟩
theorem ArgN.below (h : ArgN kd lo hi w A l) (hb : Below w.heap.size w wr) : ArgN kd lo hi wr A l :=
  ⟨h.1, fun h0 => by
    obtain ⟨b, off, e, hlt, hc⟩ := h.2 h0
    exact ⟨b, off, e, Nat.lt_of_lt_of_le hlt hb.size, fun i x hx => (hb.cell (p := ⟨b, _, none⟩) hlt).trans (hc i x hx)⟩⟩
theorem argN_of {W : World} {a : Addr} {len cap : Nat} {zs : List Int} (hl : len ≤ cap) (hz : zs.length = cap) (hcell : ∀ i, i < zs.length → W.cell? (a.add i) = some (.int kd (zs.getD i 0))) (hb : ∀ z ∈ zs, lo ≤ z ∧ z ≤ hi) :
    ∃ A l, (some a : Option Addr) = A ∧ l.length = len ∧ ArgN kd lo hi W A l := by
  have hlen : (zs.take len).length = len := by rw [List.length_take]; omega
  refine ⟨_, zs.take len, rfl, hlen, fun z hz => hb z (List.mem_of_mem_take hz), fun h0 => ?_⟩
  rw [hlen] at h0
  obtain ⟨b, off, spot⟩ := a
  have h1 := hcell 0 (by omega)
  have hs : spot = none := by simpa [Addr.add] using World.cell?_spot h1
  subst hs
  have hadd : ∀ j, (⟨b, off, none⟩ : Addr).add j = ⟨b, off + j, none⟩ := fun j => by unfold Addr.add; split <;> simp_all
  refine ⟨b, off, rfl, ?_, fun i z hi => ?_⟩
  · have := World.block_lt_of_cell? W _ h1
    rw [hadd] at this
    exact this
  · rw [List.getElem?_take] at hi
    split at hi
    · have h2 := hcell i (by omega)
      rw [hadd] at h2
      rw [h2, List.getD_eq_getElem?_getD, hi]; rfl
    · cases hi
end
end Go.Proofs.YtlephnfepofbbaaGreatDoor

/-
  WorldTicks: Now, Pass; the image of a new world.
-/
namespace Go.Proofs.YtlephnfepofbbaaGreatDoor
open Go.RowKit Go.Shelf Go.Maps Go.ChangeMaps

attribute [local go_sem] Oper.semAt_some

section
variable {w w' : World} {B : Nat} {L : Lay} {S : Ws}
theorem wNow_any (h : Wd w B L S) : Calls Tryz.prog 16 #[.pointer (some ⟨L.p, 0, none⟩)] w fun e w' => e = .returned (.int .u64 (S.now : Int)) ∧ w = w' := by
  have HM := Lib.hid (wmade_yes h.top)
  have c0 := h.top.cell 0
  simp at c0
  have k0 := h.kept.c0
  have lk := h.kept.lt
  clear h
  go_enter Tryz.func16, Tryz.ntmps16
  go_wp2_with fail
  refine HM.out.mono ?_
  rintro e w1 ⟨rfl, rfl⟩
  go_wp2_with fail
  go_ret
  exact ⟨rfl, rfl⟩
def Ws.pass (s : Ws) (n : Nat) : Ws := { s with now := s.now + min n (18446744073709551615 - s.now) }
set_option maxRecDepth 100000 in
set_option maxHeartbeats 2000000 in
theorem wPass_any (h : Wd w B L S) (n : Nat) (hn : n ≤ 18446744073709551615) (hs : S.now ≤ 18446744073709551615) : Calls Tryz.prog 117 #[.pointer (some ⟨L.p, 0, none⟩), .int .u64 (n : Int)] w fun e w' =>
    e = .returned (.tuple #[]) ∧ Wd w' B L (S.pass n) ∧ Mv w w' L.F L.F := by
  have HM := Lib.hid (wmade_yes h.top)
  have c0 := h.top.cell 0
  simp at c0
  have k0 := h.kept.c0
  have f0 := h.kept.frozen 0
  have lk := h.kept.lt
  have lp := h.top.lt
  obtain ⟨r, hr⟩ : ∃ r, r = 18446744073709551615 - S.now := ⟨_, rfl⟩
  obtain ⟨d, hd⟩ : ∃ d, d = min n r := ⟨_, rfl⟩
  obtain ⟨m, hm⟩ : ∃ m, m = S.now + d := ⟨_, rfl⟩
  have e1 : IntKind.u64.wrap (18446744073709551615 - (S.now : Int)) = (r : Int) := by rw [IntWalk.u64_in _ (by omega)]; omega
  have e2 : IntKind.u64.wrap ((S.now : Int) + (d : Int)) = (m : Int) := by rw [IntWalk.u64_in _ (by omega)]; omega
  have e3 : (if (r : Int) < (n : Int) then (r : Int) else (n : Int)) = (d : Int) := by split <;> omega
  have e4 : (if r < n then (r : Int) else (n : Int)) = (d : Int) := by split <;> omega
  have q := (Kept.refl (fun j => j = L.kb) w).drewN 1 |>.setCell (p := ⟨L.kb, 0, none⟩) rfl (.int .u64 (m : Int))
  have HE := Lib.hid (show Wd ((w.drewN 1).setCell ⟨L.kb, 0, none⟩ (.int .u64 (m : Int))) B L (S.pass n) ∧ Mv w ((w.drewN 1).setCell ⟨L.kb, 0, none⟩ (.int .u64 (m : Int))) L.F L.F from by
    have hw := h.turnK (now := m) (fds := S.fds) (nt := S.nt) q (show Kb ((w.drewN 1).setCell ⟨L.kb, 0, none⟩ (.int .u64 (m : Int))) L.kb m L.wv _ _ _ from (h.drewN 1).kept.set0 m) h.fdok h.ntok
    refine ⟨?_, h.mvK q⟩
    have : S.pass n = { S with now := m } := by unfold Ws.pass; rw [hm, hd, hr]
    rw [this]
    exact hw)
  obtain ⟨z, hz⟩ : ∃ z, z = ((S.now : Nat) : Int) := ⟨_, rfl⟩
  rw [← hz] at k0 e1 e2
  clear h q hm hd hr hz
  go_enter Tryz.func117, Tryz.ntmps117
  go_wp2_with fail
  refine HM.out.mono ?_
  rintro e w1 ⟨rfl, rfl⟩
  go_wp2_with fail
  go_still_tail 20, (by kernel_rfl)
  change wpList _ _ _ _ _ w.drew
  go_wp2_with fail
  go_end0
  exact ⟨rfl, HE.out⟩
end

theorem fmt_small (w : World) : Calls Tryz.prog 121 #[.int .i64 0] w fun e w' => e = .returned (.string ⟨#[48]⟩) ∧ w = w' := by
  go_enter Tryz.func121, Tryz.ntmps121
  go_wp2_with fail
  go_ret
  exact ⟨rfl, rfl⟩
theorem fmt_in (w : World) : Calls Tryz.prog 97 #[.int .u64 0, .int .i64 10] w fun e w' => e = .returned (.string ⟨#[48]⟩) ∧ w = w' := by
  have H := Lib.hid (fmt_small w)
  go_enter Tryz.func97, Tryz.ntmps97
  go_wp2_with fail
  refine H.out.mono ?_
  rintro e w1 ⟨rfl, rfl⟩
  go_wp2_with fail
  go_ret
  exact ⟨rfl, rfl⟩
theorem fmt_zero (w : World) : Calls Tryz.prog 50 #[.int .u64 0, .int .i64 10] w fun e w' => e = .returned (.string ⟨#[48]⟩) ∧ w = w' := by
  have H := Lib.hid (fmt_in w)
  go_enter Tryz.func50, Tryz.ntmps50
  go_wp2_with fail
  refine H.out.mono ?_
  rintro e w1 ⟨rfl, rfl⟩
  go_wp2_with fail
  go_ret
  exact ⟨rfl, rfl⟩

theorem five_boxes (w : World) (t0 t1 t2 t3 t4 : TypeId) (a0 a1 a2 a3 a4 : Value) : ∃ V, V = ((((w.alloc (.cells #[a0] t0)).alloc (.cells #[a1] t1)).alloc (.cells #[a2] t2)).alloc (.cells #[a3] t3)).alloc (.cells #[a4] t4) ∧ Kept (fun _ => False) w V ∧
    Boxed V w.heap.size t0 a0 ∧ Boxed V (w.heap.size + 1) t1 a1 ∧ Boxed V (w.heap.size + 2) t2 a2 ∧ Boxed V (w.heap.size + 3) t3 a3 ∧ Boxed V (w.heap.size + 4) t4 a4 ∧ V.heap.size = w.heap.size + 5 := by
  obtain ⟨U, hU, u0, u1, u2, u3, u4, u5⟩ := four_boxes w t0 t1 t2 t3 a0 a1 a2 a3
  rw [← hU]
  refine ⟨_, rfl, u0.alloc _, (Below.heap_alloc _ _ _ (by omega)).trans u1, (Below.heap_alloc _ _ _ (by omega)).trans u2, (Below.heap_alloc _ _ _ (by omega)).trans u3, (Below.heap_alloc _ _ _ (by omega)).trans u4, ?_, by simp [u5]⟩
  rw [← u5]
  exact World.alloc_heap_new U _

theorem numsA_none (b : Bool) (hb : b = true) (k : Nat) : numsA (fun _ => none) b k = [] := by
  subst hb
  unfold numsA
  rw [List.filter_eq_nil_iff]
  intro a _; simp
/-- While the image of a new world is laid. -/
structure ImI (w : World) (kb : Nat) (W : World) : Prop where
  k : Boxed W w.heap.size 59 (.pointer (some ⟨kb, 0, none⟩))
  row : Blk W (w.heap.size + 1) 9 #[.string ⟨#[110, 111, 119, 32, 48]⟩]
  l : Boxed W (w.heap.size + 2) 56 (.slice (some ⟨w.heap.size + 1, 0, none⟩) 1 1)
  bel : Below w.heap.size w W
theorem ImI.chR {w X Y : World} {kb N : Nat} (h : ImI w kb X) (k : ChR N X Y) (hN : w.heap.size ≤ N) : ImI w kb Y := ⟨boxed_chR h.k k, blk_chR h.row k, boxed_chR h.l k, below_chR h.bel k hN⟩
/-- What the image of a new world is. -/
def ImgOut (w : World) (e : Ending) (w' : World) : Prop := Below w.heap.size w w' ∧ ∃ g, e = .returned (.slice (some ⟨g, 0, none⟩) 1 1) ∧ w.heap.size ≤ g ∧ Blk w' g 9 #[.string ⟨#[110, 111, 119, 32, 48]⟩]

set_option maxRecDepth 100000 in
set_option maxHeartbeats 8000000 in
theorem image_new {w : World} {B : Nat} {L : Lay} (h : Wd w B L Ws.new) : Calls Tryz.prog 23 #[.pointer (some ⟨L.p, 0, none⟩)] w (ImgOut w) := by
  have HM := Lib.hid (wmade_yes h.top)
  have c0 := h.top.cell 0
  simp at c0
  have lp := h.top.lt
  have lk := h.kept.lt
  have k0 := h.kept.c0
  rw [show ((Ws.new.now : Nat) : Int) = 0 from rfl] at k0
  have H := Lib.hid h
  clear h
  refine (callsIn_wide (n := 6)).1 ?_
  refine callsIn_of_wp_marks Tryz.func23 rfl trivial ?_ rfl
  simp only [Tryz.ntmps23, List.size_toArray, List.length_cons, List.length_nil, Nat.reduceAdd, Nat.reduceSub, Array.replicate_succ, Array.replicate_zero, List.push_toArray, List.append_toArray, List.nil_append, List.cons_append]
  have hcat : (⟨#[110, 111, 119, 32]⟩ ++ ⟨#[48]⟩ : ByteArray) = ⟨#[110, 111, 119, 32, 48]⟩ := by decide
  gi_wp2_with (refine ⟨trivial, ?_⟩; first
    | (gi_at_call 44; refine (callsIn_wide.2 HM.out).mono ?_; rintro e w1 ⟨rfl, rfl⟩)
    | (gi_at_call 50; refine (callsIn_wide.2 (fmt_zero _)).mono ?_; rintro e w1 ⟨rfl, rfl⟩)
    | (gi_at_call 51; refine (callsIn_wide.2 (numbers_call _ L.kb true)).mono ?_; rintro e w1 ⟨rfl, rfl⟩))
  obtain ⟨V, hV, v0, v1, v2, v3, v4, v5, v6⟩ := five_boxes w 59 9 56 59 4 (.pointer (some ⟨L.kb, 0, none⟩)) (.string ⟨#[110, 111, 119, 32, 48]⟩) (.slice (some ⟨w.heap.size + 1, 0, none⟩) 1 1) (.pointer (some ⟨L.kb, 0, none⟩)) (.bool true)
  rw [← hV]
  have hTV := H.out.kept.same (v0.block L.kb lk (fun e => e))
  have hc0 : ImI w L.kb V := ⟨v1, v2, v3, v0.below (fun _ e => e.elim) (Nat.le_refl _)⟩
  clear hV
  refine rangeFunc_o (n := 6) (by omega) (gf := 98) (lb := #[.pointer (some ⟨w.heap.size + 1 + 1 + 1, 0, none⟩), .pointer (some ⟨w.heap.size + 1 + 1 + 1 + 1, 0, none⟩)]) rfl (enters_of Tryz.func98 (by kernel_rfl) rfl)
    (encs := encI) TCe (fun i => i < w.heap.size ∨ i = w.heap.size + 3 ∨ i = w.heap.size + 4) (num_o 5 (by omega) true hTV _ _ v4 v5 TCe _ V.heap.size ⟨by omega, .inr (.inl rfl)⟩ ⟨by omega, .inr (.inr rfl)⟩ ⟨by omega, .inl lk⟩) (fun _ => rfl)
    (fun _ W => ImI w L.kb W) (fun _ _ _ => False)
    (fun s X Y hi hc => hi.chR hc (by omega)) (fun c s X Y hi hc => hi.elim) hc0 ?round ?done ?stop
  case round =>
    rintro l pre x W hz hS ⟨R, hR⟩
    rw [show (fun fd => L.at_ (Ws.new.fds fd)) = fun _ => none from rfl, numsA_none true rfl 96] at hR
    simp at hR
  case stop => rintro c pre W hp hf; exact hf.elim
  case done =>
    rintro xs W - hS hD hz
    have hW := H.out.below hS.bel
    have k1 := hW.kept.c1
    have k9 := hW.kept.c98
    have kn := hW.kept.c99
    have hrow := hW.row
    obtain ⟨A, c, hwv, _⟩ := RowK.own_shows hrow
    rw [show ((List.range Ws.new.ws.length).map L.wa).length = 0 from rfl] at hwv
    rw [hwv] at k1
    rw [show (Value.pointer (L.at_ Ws.new.nt)) = .pointer none from rfl] at kn
    have cb := hS.k.cell
    have lb := hS.k.lt
    have cl := hS.l.cell
    have ll := hS.l.lt
    have lk2 := hW.kept.lt
    have HE := Lib.hid (And.intro hS (And.intro hW (And.intro hD hz)))
    clear hrow hwv hc0 hTV v0 v1 v2 v3 v4 v5 hS hW hD H HM
    gi_wp2_with fail
    gi_loopw [46] (fun v wr => v = .int .i64 0 ∧ wr = W) (fun _ _ => 0)
    case atStart => exact ⟨rfl, rfl⟩
    case round =>
      obtain ⟨rfl, rfl⟩ := hrel
      have HL := Lib.hid (list_any HE.out.2.1.sig)
      gi_wp2_with (refine ⟨trivial, ?_⟩; gi_at_call 55; refine (callsIn_wide.2 HL.out).mono ?_; rintro e w1 ⟨v, rfl, hv, hb⟩; rw [show Ws.new.sg.list 32 = [] from by decide] at hv; obtain ⟨A1, c1, rfl, _⟩ := RowK.own_shows hv; have hs1 := hb.size; have cb := (hb.cell (p := ⟨w.heap.size, 0, none⟩) lb).trans cb; have cl := (hb.cell (p := ⟨w.heap.size + 2, 0, none⟩) ll).trans cl; have kn := (hb.cell (p := ⟨L.kb, 99, none⟩) lk2).trans kn; have lb := Nat.lt_of_lt_of_le lb hs1; have ll := Nat.lt_of_lt_of_le ll hs1; have lk2 := Nat.lt_of_lt_of_le lk2 hs1; have HB := Lib.hid hb; clear hb hv)
      gi_loopw [69] (fun v wr => v = .int .i64 0 ∧ wr = w1) (fun _ _ => 0)
      case atStart => exact ⟨rfl, rfl⟩
      case round =>
        obtain ⟨rfl, rfl⟩ := hrel
        gi_wp2_with fail
        obtain ⟨hI, -, hD, hz'⟩ := HE.out
        rw [v6] at hD hz'
        have hI2 : ImI w L.kb wr := ⟨(HB.out.block _ hI.k.lt).trans hI.k, (HB.out.block _ hI.row.lt).trans hI.row, (HB.out.block _ hI.l.lt).trans hI.l, hI.bel.trans (HB.out.mono hI.bel.size)⟩
        exact leaves_marks (w.heap.size + 3) [w.heap.size + 5] wr (by simp) (fun D hD' => by simp at hD'; subst hD'; exact ⟨by omega, (HB.out.block _ (by omega)).trans hD⟩) (fun W' hc => ⟨_, results_tmp rfl _ _ _, below_chR hI2.bel hc.toR (by omega), _, rfl, by omega, blk_chR hI2.row hc.toR⟩)

/-- Two rows of one string. -/
theorem same_one {w : World} {a b : Nat} {x : ByteArray} (ha : Blk w a 9 #[.string x]) (hb : Blk w b 9 #[.string x]) : Calls Tryz.prog 22 #[.slice (some ⟨a, 0, none⟩) 1 1, .slice (some ⟨b, 0, none⟩) 1 1] w fun e w' => e = .returned (.bool true) ∧ Kept (fun _ => False) w w' := by
  have H0 := Lib.hid (And.intro ha hb)
  clear ha hb
  go_enter Tryz.func22, Tryz.ntmps22
  go_wp2_with fail
  go_loopw [5] (fun v wr => (v = .int .i64 0 ∨ v = .int .i64 1) ∧ Blk wr a 9 #[.string x] ∧ Blk wr b 9 #[.string x] ∧ Kept (fun _ => False) w wr) (fun v _ => 1 - (intOf v).toNat)
  case atStart => exact ⟨.inl rfl, H0.out.1, H0.out.2, Kept.refl _ _⟩
  case round =>
    obtain ⟨hv, h1, h2, hk⟩ := hrel
    have c1 := h1.cell 0
    have c2 := h2.cell 0
    simp at c1 c2
    have l1 := h1.lt
    have l2 := h2.lt
    have HE := Lib.hid (And.intro h1 (And.intro h2 hk))
    clear h1 h2 hk
    rcases hv with rfl | rfl
    · go_wp2_with fail
      go_quiet (fail)
      go_wp2_with fail
      go_roundw
      case rel => exact ⟨.inr (by go_num), HE.out.1, HE.out.2.1, HE.out.2.2.drewN _⟩
      case measure => simp [intOf]
    · go_wp2_with fail
      go_ret
      exact ⟨rfl, HE.out.2.2⟩

section
variable {B : Nat} {W w w' : World} {p : Nat} {S : Ws} {N : Nat} {D : Nat → Prop}
theorem Od.now (h : Od B W p S N D w) : Calls Tryz.prog 16 #[.pointer (some ⟨p, 0, none⟩)] w fun e w' => e = .returned (.int .u64 (S.now : Int)) ∧ w = w' := by
  obtain ⟨L, rfl, h2, h3, h4, h5⟩ := h
  exact wNow_any h2
theorem Od.pass (h : Od B W p S N D w) (n : Nat) (hn : n ≤ 18446744073709551615) (hs : S.now ≤ 18446744073709551615) : Calls Tryz.prog 117 #[.pointer (some ⟨p, 0, none⟩), .int .u64 (n : Int)] w fun e w' => e = .returned (.tuple #[]) ∧ OdM B W p (S.pass n) N D w w' := by
  obtain ⟨L, rfl, h2, h3, h4, h5⟩ := h
  refine (wPass_any h2 n hn hs).mono ?_
  rintro e w' ⟨rfl, k1, k2⟩
  exact ⟨rfl, Od.go rfl h2 h3 h5 k1 rfl k2 h4⟩
theorem image_od (h : Od B W p Ws.new N D w) : Calls Tryz.prog 23 #[.pointer (some ⟨p, 0, none⟩)] w (ImgOut w) := by
  obtain ⟨L, rfl, h2, h3, h4, h5⟩ := h
  exact image_new h2
end
def Ws.at_ (m : Nat) : Ws := { Ws.new with now := m }
end Go.Proofs.YtlephnfepofbbaaGreatDoor

/-
  PeerClose; the kept block's notify.
-/
namespace Go.Proofs.YtlephnfepofbbaaGreatDoor
open Go.RowKit Go.Maps Go.ChangeMaps

attribute [local go_sem] Oper.semAt_some

theorem Wi.rd_wait (x : Wi) (k : Bool) : (x.rdRise k).wait = x.wait := by unfold Wi.rdRise; split <;> rfl
theorem Wi.wr_wait (x : Wi) (k : Bool) : (x.wrRise k).wait = x.wait := by unfold Wi.wrRise; split <;> rfl
theorem Wi.close_wait (x : Wi) (k : Bool) : (x.close k).wait = x.wait := by
  unfold Wi.close
  split
  · rw [Wi.wr_wait]; rfl
  · rw [Wi.wr_wait, Wi.rd_wait]; rfl
section
variable {w w' : World} {B : Nat} {L : Lay} {S : Ws}
theorem wPeerClose_any (h : Wd w B L S) {n : Int} {x : Wi} (ho : S.outer n = some x) (hN : x.le 900000000) :
    Calls Tryz.prog 29 #[.pointer (some ⟨L.p, 0, none⟩), .int .i64 n] w fun e w' => e = .returned (.int .i64 0) ∧ Turned w B L S n.toNat (x.close true) w' := by
  obtain ⟨i, rfl, hx, his⟩ := Ws.outer_some ho
  have hi := (List.getElem?_eq_some_iff.1 hx).1
  have hwr := h.wire i x hx
  have HF := Lib.hid (outer_yes h ho)
  rw [Int.toNat_natCast] at HF
  rw [Int.toNat_natCast]
  have H := Lib.hid (And.intro h hx)
  have HS := Lib.hid (endclose_any hwr.blk true (hN.mono (by omega)))
  rw [off_t] at HS
  clear h hx hwr hN ho his hi
  go_enter Tryz.func29, Tryz.ntmps29
  go_wp2_with fail
  refine HF.out.mono ?_
  rintro e w1 ⟨rfl, rfl⟩
  go_wp2_with fail
  refine HS.out.mono ?_
  rintro e w1 ⟨rfl, h1, h2⟩
  have HE := Lib.hid (show Turned w B L S i (x.close true) w1 from H.out.1.turnW H.out.2 h1 h2 (Wi.sameR_close x true) (Wi.close_wait x true))
  clear h1 h2
  go_wp2_with fail
  go_ret
  exact ⟨rfl, HE.out⟩
end
section
variable {B : Nat} {W w w' : World} {p : Nat} {S : Ws} {N : Nat} {D : Nat → Prop}
theorem Od.peerClose (h : Od B W p S N D w) {n : Int} {x : Wi} (ho : S.outer n = some x) (hN : N ≤ 900000000) :
    Calls Tryz.prog 29 #[.pointer (some ⟨p, 0, none⟩), .int .i64 n] w fun e w' => e = .returned (.int .i64 0) ∧ OdM B W p (S.setW n.toNat (x.close true)) (N + 2) D w w' := by
  obtain ⟨L, rfl, h2, h3, h4, h5⟩ := h
  obtain ⟨i, e, hx, _⟩ := Ws.outer_some ho
  refine (wPeerClose_any h2 ho ((h4 i x hx).mono hN)).mono ?_
  rintro e w' ⟨rfl, ht⟩
  exact ⟨rfl, Od.turned rfl h2 h3 h4 h5 ht (Wi.le_close (h4 i x hx) true) (by omega)⟩
end
end Go.Proofs.YtlephnfepofbbaaGreatDoor

/-
  Listen.
-/
namespace Go.Proofs.YtlephnfepofbbaaGreatDoor
open Go.RowKit Go.Shelf Go.Maps Go.ChangeMaps

attribute [local go_sem] Oper.semAt_some

theorem Wb.setBack {w : World} {g n : Nat} {r : Bool → Nat} {v : Value} {x : Wi} (h : Wb w g n r v x) (m : Nat) : Wb (w.setCell ⟨g, 16, none⟩ (.int .i64 (m : Int))) g n r v { x with back := m } := by
  have := Blk.set_ h 16 (.int .i64 (m : Int)); exact this
/-- What Listen leaves. -/
def MadeL (w : World) (B : Nat) (L : Lay) (S : Ws) (x : Wi) (e : Ending) (w' : World) : Prop := ∃ fd : Nat, S.frees[0]? = some fd ∧ e = .returned (.tuple #[.int .i64 (fd : Int), .int .i64 (S.ws.length : Int), .int .i64 0]) ∧
  ∃ L', Wd w' B L' ((S.addW x).opened S.ws.length false fd) ∧ L.ext L' S.ws.length ∧ Mv w w' L.F L'.F ∧ L'.wt S.ws.length = .slice none 0 0
/-- A listener. -/
def lisW (n : Nat) : Wi := { Wi.new 0 0 with back := n }
section
variable {w w' : World} {B : Nat} {L : Lay} {S : Ws}
end
section
variable {B : Nat} {W w w' : World} {p : Nat} {S : Ws} {N : Nat} {D : Nat → Prop}
end
end Go.Proofs.YtlephnfepofbbaaGreatDoor

/-
  The calls of a world that New did not make.
-/
namespace Go.Proofs.YtlephnfepofbbaaGreatDoor
open Go.RowKit Go.Shelf Go.Maps Go.ChangeMaps

attribute [local go_sem] Oper.semAt_some

/-- A world that New did not make. -/
def Un (v : Value) (w : World) : Prop := Calls Tryz.prog 44 #[v] w fun e w' => e = .returned (.bool false) ∧ w = w'
theorem un_nil (w : World) : Un (.pointer none) w := wmade_nil w
theorem un_zero {w : World} {p : Nat} (h : Blk w p 68 #[.pointer none]) : Un (.pointer (some ⟨p, 0, none⟩)) w := wmade_zero h
section
variable {v : Value} {w : World}
theorem un_made (h : Un v w) : Calls Tryz.prog 44 #[v] w fun e w' => e = .returned (.bool false) ∧ w = w' := h
set_option maxRecDepth 100000 in
theorem un_room (h : Un v w) (a : Int) (b : Int) (c : Int) : Calls Tryz.prog 47 #[v, .int .i64 a, .int .i64 b, .int .i64 c] w fun e w' => e = .returned (.tuple #[.slice none 0 0, .int .i64 1]) ∧ w = w' := by
  have HC := Lib.hid (un_made h )
  clear h
  go_enter Tryz.func47, Tryz.ntmps47
  go_wp2_with fail
  refine HC.out.mono ?_
  rintro e w1 ⟨rfl, rfl⟩
  go_wp2_with fail
  go_ret2
  exact ⟨rfl, rfl⟩
set_option maxRecDepth 100000 in
theorem un_find (h : Un v w) (a : Int) : Calls Tryz.prog 116 #[v, .int .i64 a] w fun e w' => e = .returned (.tuple #[.pointer none, .int .i64 1]) ∧ w = w' := by
  have HC := Lib.hid (un_made h )
  clear h
  go_enter Tryz.func116, Tryz.ntmps116
  go_wp2_with fail
  refine HC.out.mono ?_
  rintro e w1 ⟨rfl, rfl⟩
  go_wp2_with fail
  go_ret2
  exact ⟨rfl, rfl⟩
set_option maxRecDepth 100000 in
theorem un_wire (h : Un v w) (a : Int) : Calls Tryz.prog 66 #[v, .int .i64 a] w fun e w' => e = .returned (.tuple #[.pointer none, .int .i64 1]) ∧ w = w' := by
  have HC := Lib.hid (un_made h )
  clear h
  go_enter Tryz.func66, Tryz.ntmps66
  go_wp2_with fail
  refine HC.out.mono ?_
  rintro e w1 ⟨rfl, rfl⟩
  go_wp2_with fail
  go_ret2
  exact ⟨rfl, rfl⟩
set_option maxRecDepth 100000 in
theorem un_outer (h : Un v w) (a : Int) : Calls Tryz.prog 58 #[v, .int .i64 a] w fun e w' => e = .returned (.tuple #[.pointer none, .int .i64 1]) ∧ w = w' := by
  have HC := Lib.hid (un_wire h a)
  clear h
  go_enter Tryz.func58, Tryz.ntmps58
  go_wp2_with fail
  refine HC.out.mono ?_
  rintro e w1 ⟨rfl, rfl⟩
  go_wp2_with fail
  go_ret2
  exact ⟨rfl, rfl⟩
set_option maxRecDepth 100000 in
theorem un_put (h : Un v w) (a : Int) (D : Value) : Calls Tryz.prog 26 #[v, .int .i64 a, D] w fun e w' => e = .returned (.tuple #[.int .i64 0, .int .i64 1]) ∧ w = w' := by
  have HC := Lib.hid (un_outer h a)
  clear h
  go_enter Tryz.func26, Tryz.ntmps26
  go_wp2_with fail
  refine HC.out.mono ?_
  rintro e w1 ⟨rfl, rfl⟩
  go_wp2_with fail
  go_ret2
  exact ⟨rfl, rfl⟩
set_option maxRecDepth 100000 in
theorem un_connect (h : Un v w) (a : Int) (b : Int) : Calls Tryz.prog 31 #[v, .int .i64 a, .int .i64 b] w fun e w' => e = .returned (.tuple #[.int .i64 0, .int .i64 1]) ∧ w = w' := by
  have HC := Lib.hid (un_wire h a)
  clear h
  go_enter Tryz.func31, Tryz.ntmps31
  go_wp2_with fail
  refine HC.out.mono ?_
  rintro e w1 ⟨rfl, rfl⟩
  go_wp2_with fail
  go_ret2
  exact ⟨rfl, rfl⟩
set_option maxRecDepth 100000 in
theorem un_reset (h : Un v w) (a : Int) : Calls Tryz.prog 30 #[v, .int .i64 a] w fun e w' => e = .returned (.int .i64 1) ∧ w = w' := by
  have HC := Lib.hid (un_outer h a)
  clear h
  go_enter Tryz.func30, Tryz.ntmps30
  go_wp2_with fail
  refine HC.out.mono ?_
  rintro e w1 ⟨rfl, rfl⟩
  go_wp2_with fail
  go_ret
  exact ⟨rfl, rfl⟩
set_option maxRecDepth 100000 in
theorem un_now (h : Un v w) : Calls Tryz.prog 16 #[v] w fun e w' => e = .returned (.int .u64 0) ∧ w = w' := by
  have HC := Lib.hid (un_made h )
  clear h
  go_enter Tryz.func16, Tryz.ntmps16
  go_wp2_with fail
  refine HC.out.mono ?_
  rintro e w1 ⟨rfl, rfl⟩
  go_wp2_with fail
  go_ret
  exact ⟨rfl, rfl⟩
set_option maxRecDepth 100000 in
theorem un_image (h : Un v w) : Calls Tryz.prog 23 #[v] w fun e w' => e = .returned (.slice none 0 0) ∧ w = w' := by
  have HC := Lib.hid (un_made h )
  clear h
  go_enter Tryz.func23, Tryz.ntmps23
  go_wp2_with fail
  refine HC.out.mono ?_
  rintro e w1 ⟨rfl, rfl⟩
  go_wp2_with fail
  go_ret
  exact ⟨rfl, rfl⟩
set_option maxRecDepth 100000 in
theorem un_pass (h : Un v w) (U : Int) : Calls Tryz.prog 117 #[v, .int .u64 U] w fun e w' => e = .returned (.tuple #[]) ∧ w = w' := by
  have HC := Lib.hid (un_made h )
  clear h
  go_enter Tryz.func117, Tryz.ntmps117
  go_wp2_with fail
  refine HC.out.mono ?_
  rintro e w1 ⟨rfl, rfl⟩
  go_wp2_with fail
  go_end0
  exact ⟨rfl, rfl⟩
set_option maxRecDepth 100000 in
theorem un_raise (h : Un v w) (a : Int) : Calls Tryz.prog 32 #[v, .int .i64 a] w fun e w' => e = .returned (.int .i64 1) ∧ w = w' := by
  have HC := Lib.hid (un_made h )
  clear h
  go_enter Tryz.func32, Tryz.ntmps32
  go_wp2_with fail
  refine HC.out.mono ?_
  rintro e w1 ⟨rfl, rfl⟩
  go_wp2_with fail
  go_ret
  exact ⟨rfl, rfl⟩
end
def rdy0 : Array Value := #[.bool false, .bool false, .bool false, .bool false, .bool false, .int .u64 0, .int .u64 0]
end Go.Proofs.YtlephnfepofbbaaGreatDoor

/-
  The row of what waits at a wire is another one.
-/
namespace Go.Proofs.YtlephnfepofbbaaGreatDoor
open Go.RowKit Go.Shelf Go.Maps Go.ChangeMaps

noncomputable def Lay.setWt (L : Lay) (i : Nat) (v : Value) : Lay := { L with wt := fun j => if j = i then v else L.wt j, own := fun b => if v.ownBlock = some b then some (.wait i) else L.own b }
section
variable {W W' : World} {B : Nat} {L : Lay} {S : Ws}
theorem Wd.setWait (h : Wd W B L S) {i : Nat} {x y : Wi} (hx : S.ws[i]? = some x) {v : Value} (hk : Kept (fun b => b = L.wa i ∨ L.own b = some (.wait i)) W W')
    (hb : Wb W' (L.wa i) i (L.rr i) v y) (hr : x.sameR y) {A : Option Addr} {c : Nat} (ev : v = .slice A y.wait.length c) (h1 : y.wait.length ≤ c) (h2 : A = none → c = 0) (h3 : RP.shows W' A (y.wait.map L.wa))
    (ho : ∀ b, v.ownBlock = some b → (L.own b = some (.wait i) ∨ W.heap.size ≤ b) ∧ b < W'.heap.size) (hw : ∀ j ∈ y.wait, j < S.ws.length) :
    ∃ L', Wd W' B L' (S.setW i y) ∧ L'.p = L.p ∧ L'.kb = L.kb ∧ L'.wa = L.wa ∧ L'.wt i = v ∧ Mv W W' L.F L'.F := by
  have hi : i < S.ws.length := (List.getElem?_eq_some_iff.1 hx).1
  have hgw := h.owire i hi
  have hsz := hk.size
  have hsl : (S.setW i y).ws.length = S.ws.length := by simp [Ws.setW]
  have hne : ∀ b t, L.own b = some t → t ≠ .wait i → (L.setWt i v).own b = some t := fun b t hb' ht => by
    have hn : v.ownBlock ≠ some b := fun e => by
      rcases (ho b e).1 with h5 | h5
      · rw [h5] at hb'; cases hb'; exact ht rfl
      · have := (h.lt b t hb').2; omega
    exact (if_neg hn).trans hb'
  have hin : ∀ b t, (L.setWt i v).own b = some t → (t = .wait i ∧ v.ownBlock = some b) ∨ L.own b = some t := fun b t hb' => by
    have hb2 : (if v.ownBlock = some b then some (Tg.wait i) else L.own b) = some t := hb'
    split at hb2
    · cases hb2; exact .inl ⟨rfl, by assumption⟩
    · exact .inr hb2
  have hout : ∀ b t, L.own b = some t → t ≠ .wait i → t ≠ .wire i → W'.heap[b]? = W.heap[b]? := fun b t hb' h5 h6 => hk.block b (h.lt b t hb').2 (by
    rintro (rfl | e)
    · rw [hgw] at hb'; cases hb'; exact h6 rfl
    · rw [e] at hb'; cases hb'; exact h5 rfl)
  have hG : ∀ j k b, L.G j k b ↔ (L.setWt i v).G j k b := fun j k b => by
    constructor
    · intro hb'; exact hne b _ hb' (fun e => by cases e)
    · intro hb'
      rcases hin b _ hb' with ⟨e, _⟩ | e
      · cases e
      · exact e
  refine ⟨L.setWt i v, ⟨h.top.same (hout _ _ h.otop (fun e => by cases e) (fun e => by cases e)), h.kept.same (hout _ _ h.okept (fun e => by cases e) (fun e => by cases e)), h.sig.same (hout _ _ h.osig (fun e => by cases e) (fun e => by cases e)), ?row, ?wire, ?wait, hne _ _ h.otop (fun e => by cases e), hne _ _ h.okept (fun e => by cases e), hne _ _ h.osig (fun e => by cases e), fun b hb' => hne _ _ (h.orow b hb') (fun e => by cases e), ?owire, ?lt, Nat.le_trans h.hs hsz, ?fdok, ?ntok, ?wtok, ?oi⟩, rfl, rfl, rfl, if_pos rfl, ?mv⟩
  case row =>
    rw [hsl]
    exact RowK.own_same h.row (fun k hk' => hout _ _ (h.orow k hk') (fun e => by cases e) (fun e => by cases e))
  case wire =>
    intro j z hz
    rcases Ws.setW_get hz with ⟨rfl, rfl⟩ | ⟨hj, hz'⟩
    · have hwr := h.wire i x hx
      have hc : Wr W' B (L.wa i) i (L.rr i) (L.G i) v z := ⟨hb, hwr.hB, Nat.le_trans h.hs hsz, fun k hc => by
        obtain ⟨g1, g2, g3⟩ := hr.2 k
        obtain ⟨out, hg⟩ := hwr.ring k (g1 ▸ hc)
        rw [hr.1, g2, g3]
        exact ⟨out, hg.same (fun b hb' => hout b _ hb' (fun e => by cases e) (fun e => by cases e)) (Nat.le_trans h.hs hsz)⟩, fun k hc => hwr.nor k ((hr.2 k).1 ▸ hc), hwr.sep, hwr.own⟩
      have hv : (L.setWt i v).wt i = v := if_pos rfl
      rw [hv]
      exact hc.congr (fun k b => hG i k b)
    · have hv : (L.setWt i v).wt j = L.wt j := if_neg (fun e => hj e.symm)
      rw [hv]
      exact ((h.wire j z hz').same (fun b hb' => by
        rcases hb' with rfl | ⟨k, hk'⟩
        · exact hout _ _ (h.owire j (List.getElem?_eq_some_iff.1 hz').1) (fun e => by cases e) (fun e => hj (by cases e; rfl))
        · exact hout b _ hk' (fun e => by cases e) (fun e => by cases e)) (Nat.le_trans h.hs hsz)).congr (fun k b => hG j k b)
  case wait =>
    intro j z hz
    rcases Ws.setW_get hz with ⟨rfl, rfl⟩ | ⟨hj, hz'⟩
    · refine ⟨A, c, (if_pos rfl).trans ev, h1, h2, h3, fun a ha => ?_⟩
      subst ha
      show (if v.ownBlock = some a.block then some (Tg.wait i) else L.own a.block) = _
      rw [if_pos (by rw [ev]; rfl)]
    · obtain ⟨A', c', g1, g2, g3, g4, g5⟩ := (h.wait j z hz').same (fun b hb' => hout b _ hb' (fun e => hj (by cases e; rfl)) (fun e => by cases e)) hsz
      exact ⟨A', c', (if_neg (fun e => hj e.symm)).trans g1, g2, g3, g4, fun a ha => hne _ _ (g5 a ha) (fun e => hj (by cases e; rfl))⟩
  case owire =>
    intro j hj
    rw [hsl] at hj
    exact hne _ _ (h.owire j hj) (fun e => by cases e)
  case lt =>
    intro b t hb'
    rcases hin b t hb' with ⟨_, e⟩ | e
    · obtain ⟨h5, h6⟩ := ho b e
      refine ⟨?_, h6⟩
      rcases h5 with h5 | h5
      · exact (h.lt b _ h5).1
      · exact Nat.le_trans h.hs h5
    · exact ⟨(h.lt b t e).1, Nat.lt_of_lt_of_le (h.lt b t e).2 hsz⟩
  case fdok => intro fd j k hf; rw [hsl]; exact h.fdok fd j k hf
  case ntok => intro j k hf; rw [hsl]; exact h.ntok j k hf
  case wtok =>
    intro j z hz a ha
    rw [hsl]
    rcases Ws.setW_get hz with ⟨rfl, rfl⟩ | ⟨_, hz'⟩
    · exact hw a ha
    · exact h.wtok j z hz' a ha
  case oi =>
    intro b t j hb' hj
    rw [hsl]
    rcases hin b t hb' with ⟨rfl, _⟩ | e
    · cases hj; exact hi
    · exact h.oi b t j e hj
  case mv =>
    refine ⟨hk.mono fun b _ hb' => ?_, ?_⟩
    · rcases hb' with rfl | e
      · exact ⟨_, hgw⟩
      · exact ⟨_, e⟩
    · rintro b ⟨t, ht⟩
      rcases hin b t ht with ⟨_, e⟩ | e
      · rcases (ho b e).1 with h5 | h5
        · exact .inl ⟨_, h5⟩
        · exact .inr h5
      · exact .inl ⟨_, e⟩
end
end Go.Proofs.YtlephnfepofbbaaGreatDoor
