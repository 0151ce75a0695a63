/-
  The drivers: what is known of each, by number and by word, beside the document's own.
-/
import Derived.Test.YtbpgoopmfofcnaaDoorFlLaid
import Derived.Test.YtbpgoopmfofcnaaDoorFlBits
import Derived.WalkKit
import Derived.WalkLawsBesides
import Derived.WalkSpells
import Derived.OwnWalk
import Derived.Lib.Hide
import Derived.Outline
namespace Go.Proofs.YtbpgoopmfofcnaaDoor
open Go.RowKit

theorem ret_int {k : IntKind} {a b : Int} (h : a = b) : Ending.returned (.int k a) = .returned (.int k b) := by rw [h]
theorem ret_bool {a b : Bool} (h : a = b) : Ending.returned (.bool a) = .returned (.bool b) := by rw [h]

/-- A driver's number, word, features; nothing if there is none. -/
def dNo (m : Int) : Int := if 1 ≤ m ∧ m ≤ 4 then m else 0
def dName (m : Int) : ByteArray := nameB m.toNat
def dFeats (m : Int) : Int := featsI m.toNat
theorem none_of {m : Int} (h : ¬ (1 ≤ m ∧ m ≤ 4)) : dNo m = 0 ∧ dName m = ⟨#[]⟩ ∧ dFeats m = 0 := by
  refine ⟨if_neg h, ?_, ?_⟩
  all_goals
    obtain hm | hm : m ≤ 0 ∨ 5 ≤ m := by omega
  · unfold dName; rw [show m.toNat = 0 by omega]; rfl
  · unfold dName; obtain ⟨k, hk⟩ : ∃ k, m.toNat = k + 5 := ⟨m.toNat - 5, by omega⟩
    rw [hk]; rfl
  · unfold dFeats; rw [show m.toNat = 0 by omega]; rfl
  · unfold dFeats; obtain ⟨k, hk⟩ : ∃ k, m.toNat = k + 5 := ⟨m.toNat - 5, by omega⟩
    rw [hk]; rfl

/-- Between two rounds over the drivers: k of them were another one's. -/
def DrRel (W w0 : World) (P : Int → Prop) (i : Value) (wr : World) : Prop := ∃ k : Nat, k ≤ 4 ∧ i = .int .i64 k ∧ (∀ n : Int, 4 - (k : Int) < n → n ≤ 4 → P n) ∧ Below w0.heap.size w0 wr ∧ Below W.heap.size W w0
theorem DrRel.next {W w0 : World} {P : Int → Prop} {k : Nat} {wr' : World} (hk : k + 1 ≤ 4) (hP : ∀ n : Int, 4 - (k : Int) < n → n ≤ 4 → P n) (h : P (4 - (k : Int))) (hb : Below w0.heap.size w0 wr') (hw : Below W.heap.size W w0) (i : Value) (hi : i = .int .i64 ((k + 1 : Nat) : Int)) :
    DrRel W w0 P i wr' := by
  refine ⟨k + 1, hk, hi, fun n h1 h2 => ?_, hb, hw⟩
  by_cases e : n = 4 - (k : Int)
  · rw [e]; exact h
  · exact hP n (by omega) h2

theorem dr_index0 (w : World) : (Instr.index 53 (.agg #[.int .i64 4, .string (nameB 4), .int .i64 15, .int .i64 3, .string (nameB 3), .int .i64 11, .int .i64 2, .string (nameB 2), .int .i64 2, .int .i64 1, .string (nameB 1), .int .i64 0]) (.int .i64 0)).run Tryd.prog w = .ok (.agg #[.int .i64 4, .string (nameB 4), .int .i64 15]) w := by kernel_rfl
theorem dr_index1 (w : World) : (Instr.index 53 (.agg #[.int .i64 4, .string (nameB 4), .int .i64 15, .int .i64 3, .string (nameB 3), .int .i64 11, .int .i64 2, .string (nameB 2), .int .i64 2, .int .i64 1, .string (nameB 1), .int .i64 0]) (.int .i64 1)).run Tryd.prog w = .ok (.agg #[.int .i64 3, .string (nameB 3), .int .i64 11]) w := by kernel_rfl
theorem dr_index2 (w : World) : (Instr.index 53 (.agg #[.int .i64 4, .string (nameB 4), .int .i64 15, .int .i64 3, .string (nameB 3), .int .i64 11, .int .i64 2, .string (nameB 2), .int .i64 2, .int .i64 1, .string (nameB 1), .int .i64 0]) (.int .i64 2)).run Tryd.prog w = .ok (.agg #[.int .i64 2, .string (nameB 2), .int .i64 2]) w := by kernel_rfl
theorem dr_index3 (w : World) : (Instr.index 53 (.agg #[.int .i64 4, .string (nameB 4), .int .i64 15, .int .i64 3, .string (nameB 3), .int .i64 11, .int .i64 2, .string (nameB 2), .int .i64 2, .int .i64 1, .string (nameB 1), .int .i64 0]) (.int .i64 3)).run Tryd.prog w = .ok (.agg #[.int .i64 1, .string (nameB 1), .int .i64 0]) w := by kernel_rfl
set_option maxRecDepth 100000 in
set_option maxHeartbeats 2000000 in
theorem find_any (m : Int) (W : World) (hT : TabD W) : Calls Tryd.prog 38 #[.int .i64 m] W fun e w' =>
    e = .returned (.agg #[.int .i64 (dNo m), .string (dName m), .int .i64 (dFeats m)]) ∧ Below W.heap.size W w' := by
  obtain ⟨hlt, c0, c1, c2, c3, c4, c5, c6, c7, c8, c9, c10, c11⟩ := hT
  obtain ⟨w0, hw0⟩ : ∃ w0, W.alloc (.cells #[.int .i64 0, .string { data := #[] }, .int .i64 0] 52) = w0 := ⟨_, rfl⟩
  have hB : Below W.heap.size W w0 := by rw [← hw0]; exact (Below.refl _ _).alloc (Nat.le_refl _) _
  have hz : w0.heap.size = W.heap.size + 1 := by rw [← hw0]; simp
  have r0 : w0.cell? ⟨W.heap.size, 0, none⟩ = some (.int .i64 0) := by rw [← hw0]; simp
  have r1 : w0.cell? ⟨W.heap.size, 1, none⟩ = some (.string { data := #[] }) := by rw [← hw0]; simp
  have r2 : w0.cell? ⟨W.heap.size, 2, none⟩ = some (.int .i64 0) := by rw [← hw0]; simp
  have f0 : w0.frozen? ⟨W.heap.size, 0, none⟩ = false := by rw [← hw0]; simp
  have f1 : w0.frozen? ⟨W.heap.size, 1, none⟩ = false := by rw [← hw0]; simp
  have f2 : w0.frozen? ⟨W.heap.size, 2, none⟩ = false := by rw [← hw0]; simp
  have F0 := Lib.hid f0
  have F1 := Lib.hid f1
  have F2 := Lib.hid f2
  clear f0 f1 f2
  have HW := Lib.hid hw0
  have HZ := Lib.hid hz
  have HB := Lib.hid hB
  have R0 := Lib.hid r0
  have R1 := Lib.hid r1
  have R2 := Lib.hid r2
  clear hw0 hz hB r0 r1 r2
  have x0 := dr_index0
  have x1 := dr_index1
  have x2 := dr_index2
  have x3 := dr_index3
  go_enter Tryd.func38, Tryd.ntmps38
  go_wp2_with fail
  rw [HW.out]
  go_loopw [6] (fun i wr => DrRel W w0 (fun n => m ≠ n) i wr) (fun i _ => 4 - (intOf i).toNat)
  case atStart => exact ⟨0, by omega, rfl, fun n h1 h2 => by omega, Below.refl _ _, HB.out⟩
  case round =>
    obtain ⟨k, hk, rfl, hP, hb, _⟩ := hrel
    have HP := Lib.hid hP
    have q0 := (hb.cell (p := ⟨W.heap.size, 0, none⟩) (by have := HZ.out; show W.heap.size < _; omega)).trans R0.out
    have q1 := (hb.cell (p := ⟨W.heap.size, 1, none⟩) (by have := HZ.out; show W.heap.size < _; omega)).trans R1.out
    have q2 := (hb.cell (p := ⟨W.heap.size, 2, none⟩) (by have := HZ.out; show W.heap.size < _; omega)).trans R2.out
    have hsz : W.heap.size < wr.heap.size := by have := hb.size; have := HZ.out; omega
    have f0 := (hb.frozen (p := ⟨W.heap.size, 0, none⟩) (by have := HZ.out; show W.heap.size < _; omega)).trans F0.out
    have f1 := (hb.frozen (p := ⟨W.heap.size, 1, none⟩) (by have := HZ.out; show W.heap.size < _; omega)).trans F1.out
    have f2 := (hb.frozen (p := ⟨W.heap.size, 2, none⟩) (by have := HZ.out; show W.heap.size < _; omega)).trans F2.out
    have HBr := Lib.hid hb
    have HBW := Lib.hid (HB.out.trans (hb.mono (by have := HZ.out; omega)))
    clear hb hP
    obtain rfl | rfl | rfl | rfl | rfl : k = 0 ∨ k = 1 ∨ k = 2 ∨ k = 3 ∨ k = 4 := by omega
    · by_cases hm : m = 4
      · subst hm
        go_wp2
        refine bodyPost_ret (v := .agg #[.int .i64 4, .string (nameB 4), .int .i64 15]) (by simp [results, Tryd.results38, go_sem, hsz, Nat.ne_of_lt hsz, q0, q1, q2]) rfl ⟨rfl, ?_⟩
        (repeat' (first | exact HBW.out | apply Below.setCell | apply Below.alloc)) <;> (first | exact HBW.out.size | exact Nat.le_refl _ | (simp; omega))
      · have hm' : ¬ (4 : Int) = m := fun e => hm e.symm
        go_wp2
        go_roundw
        case rel =>
          refine DrRel.next (by omega) HP.out hm ?_ HB.out _ rfl
          (repeat' (first | exact HBr.out | apply Below.setCell | apply Below.alloc)) <;> (first | exact HBr.out.size | (simp; exact HBr.out.size))
        case measure => simp [intOf]
    · by_cases hm : m = 3
      · subst hm
        go_wp2
        refine bodyPost_ret (v := .agg #[.int .i64 3, .string (nameB 3), .int .i64 11]) (by simp [results, Tryd.results38, go_sem, hsz, Nat.ne_of_lt hsz, q0, q1, q2]) rfl ⟨rfl, ?_⟩
        (repeat' (first | exact HBW.out | apply Below.setCell | apply Below.alloc)) <;> (first | exact HBW.out.size | exact Nat.le_refl _ | (simp; omega))
      · have hm' : ¬ (3 : Int) = m := fun e => hm e.symm
        go_wp2
        go_roundw
        case rel =>
          refine DrRel.next (by omega) HP.out hm ?_ HB.out _ rfl
          (repeat' (first | exact HBr.out | apply Below.setCell | apply Below.alloc)) <;> (first | exact HBr.out.size | (simp; exact HBr.out.size))
        case measure => simp [intOf]
    · by_cases hm : m = 2
      · subst hm
        go_wp2
        refine bodyPost_ret (v := .agg #[.int .i64 2, .string (nameB 2), .int .i64 2]) (by simp [results, Tryd.results38, go_sem, hsz, Nat.ne_of_lt hsz, q0, q1, q2]) rfl ⟨rfl, ?_⟩
        (repeat' (first | exact HBW.out | apply Below.setCell | apply Below.alloc)) <;> (first | exact HBW.out.size | exact Nat.le_refl _ | (simp; omega))
      · have hm' : ¬ (2 : Int) = m := fun e => hm e.symm
        go_wp2
        go_roundw
        case rel =>
          refine DrRel.next (by omega) HP.out hm ?_ HB.out _ rfl
          (repeat' (first | exact HBr.out | apply Below.setCell | apply Below.alloc)) <;> (first | exact HBr.out.size | (simp; exact HBr.out.size))
        case measure => simp [intOf]
    · by_cases hm : m = 1
      · subst hm
        go_wp2
        refine bodyPost_ret (v := .agg #[.int .i64 1, .string (nameB 1), .int .i64 0]) (by simp [results, Tryd.results38, go_sem, hsz, Nat.ne_of_lt hsz, q0, q1, q2]) rfl ⟨rfl, ?_⟩
        (repeat' (first | exact HBW.out | apply Below.setCell | apply Below.alloc)) <;> (first | exact HBW.out.size | exact Nat.le_refl _ | (simp; omega))
      · have hm' : ¬ (1 : Int) = m := fun e => hm e.symm
        go_wp2
        go_roundw
        case rel =>
          refine DrRel.next (by omega) HP.out hm ?_ HB.out _ rfl
          (repeat' (first | exact HBr.out | apply Below.setCell | apply Below.alloc)) <;> (first | exact HBr.out.size | (simp; exact HBr.out.size))
        case measure => simp [intOf]
    · have hm : ¬ (1 ≤ m ∧ m ≤ 4) := fun h => HP.out m (by omega) h.2 rfl
      obtain ⟨n1, n2, n3⟩ := none_of hm
      have N1 := Lib.hid n1
      have N2 := Lib.hid n2
      have N3 := Lib.hid n3
      clear hm n1 n2 n3
      go_wp2
      refine bodyPost_ret (v := .agg #[.int .i64 0, .string ⟨#[]⟩, .int .i64 0]) (by simp [results, Tryd.results38, go_sem, hsz, Nat.ne_of_lt hsz, q0, q1, q2]) rfl ⟨by rw [N1.out, N2.out, N3.out], ?_⟩
      (repeat' (first | exact HBW.out | apply Below.setCell | apply Below.alloc)) <;> (first | exact HBW.out.size | exact Nat.le_refl _ | (simp; omega))
end Go.Proofs.YtbpgoopmfofcnaaDoor
