/-
  The contract of package fdset's Below: it returns the members below a number, for every set and number.
-/
import Derived.Test.YthpinbngggcgcaaDoorSets
import Derived.Deep.LoopGhost
import Derived.RegionTactic
namespace Go.Proofs.YthpinbngggcgcaaDoor
open Go.RowKit

/-- The low m bits, all 32 at most. -/
def mask (m : Nat) : Nat := 2 ^ min m 32 - 1
theorem mask_lt (m : Nat) : mask m < 4294967296 := by
  unfold mask
  have : 2 ^ min m 32 ≤ 2 ^ 32 := Nat.pow_le_pow_right (by omega) (by omega)
  omega
theorem mask_int (m : Nat) : ((2 : Int) ^ min m 32 - 1) % 4294967296 = (mask m : Int) := by
  have h := mask_lt m
  have hp : 0 < 2 ^ min m 32 := Nat.two_pow_pos _
  have e : ((mask m : Nat) : Int) = (2 : Int) ^ min m 32 - 1 := by
    unfold mask
    rw [Int.natCast_sub (by omega)]
    simp
  rw [← e]
  omega
theorem testBit_mask (m i : Nat) (hi : i < 32) : (mask m).testBit i = decide (i < m) := by
  unfold mask
  rw [Nat.testBit_two_pow_sub_one, decide_eq_decide]
  omega
theorem mask_zero : mask 0 = 0 := by decide
theorem hasB_below (a b N k : Nat) (hk : k < 64) : hasB (a &&& mask N) (b &&& mask (N - 32)) k = (hasB a b k && decide (k < N)) := by
  unfold hasB
  split
  · rw [Nat.testBit_and, testBit_mask _ _ (by omega)]
  · rw [Nat.testBit_and, testBit_mask _ _ (by omega), decide_eq_decide.2 (show k - 32 < N - 32 ↔ k < N by omega)]

set_option maxRecDepth 100000 in
set_option maxHeartbeats 2000000 in
theorem below_big (a b : Nat) (q : Int) (w : World) (ha : a < 4294967296) (hb : b < 4294967296) (hq0 : 32 ≤ q) (hq : q ≤ 9223372036854775807) (hq00 : 0 ≤ q) (hq32 : 0 ≤ q - 32) :
    Calls Tryd.prog 20 #[.agg #[.int .u32 (a : Int), .int .u32 (b : Int)], .int .i64 q] w (RetS w (a &&& mask q.toNat) (b &&& mask (q.toNat - 32))) := by
  obtain ⟨e0, he0⟩ : ∃ e0, a &&& mask q.toNat = e0 := ⟨_, rfl⟩
  obtain ⟨e1, he1⟩ : ∃ e1, b &&& mask (q.toNat - 32) = e1 := ⟨_, rfl⟩
  rw [he0, he1]
  have He0 := Lib.hid he0
  have He1 := Lib.hid he1
  clear he0 he1
  obtain ⟨X, hX⟩ : ∃ X, ((w.alloc (.cells #[.int .u32 (a : Int), .int .u32 (b : Int)] 25)).alloc (.cells #[.int .u32 0, .int .u32 0] 25)) = X := ⟨_, rfl⟩
  have hbel : Below w.heap.size w X := by rw [← hX]; exact ((Below.refl _ _).alloc (Nat.le_refl _) _).alloc (by simp) _
  have hs1 : IsSet X w.heap.size a b := by rw [← hX]; exact (isSet_new w a b).grown (World.grownBy_alloc _ _ none) (by simp)
  have hs3 : IsSet X (w.heap.size + 1) 0 0 := by
    rw [← hX]
    simpa using isSet_new (w.alloc (.cells #[.int .u32 (a : Int), .int .u32 (b : Int)] 25)) 0 0
  have HX := Lib.hid hX
  clear hX
  go_enter Tryd.func20, Tryd.ntmps20
  go_wp2_with fail
  rw [HX.out]
  go_loopw [8] (fun i wr => ((i = .int .i64 0 ∧ Hid (IsSet wr w.heap.size a b)) ∨ (i = .int .i64 1 ∧ Hid (IsSet wr w.heap.size e0 b)) ∨ (i = .int .i64 2 ∧ Hid (IsSet wr w.heap.size e0 e1))) ∧ Hid (IsSet wr (w.heap.size + 1) 0 0) ∧ Below w.heap.size w wr)
    (fun i _ => 2 - (intOf i).toNat)
  case atStart => exact ⟨.inl ⟨rfl, hs1⟩, hs3, hbel⟩
  case round =>
    clear hs1 hs3 hbel HX
    obtain ⟨hs, Hs3, hbw⟩ := hrel
    obtain ⟨z0, z1, g0, g1⟩ := Hs3.out
    rcases hs with ⟨rfl, Hs1⟩ | ⟨rfl, Hs1⟩ | ⟨rfl, Hs1⟩
    · obtain ⟨p0, p1, f0, f1⟩ := Hs1.out
      go_wp2
      go_region
      all_goals go_wp2
      all_goals rw [show bits BinOp.and IntKind.u32 (a : Int) 4294967295 = ((e0 : Nat) : Int) from by rw [show (4294967295 : Int) = ((mask q.toNat : Nat) : Int) from by (unfold mask; rw [Nat.min_eq_right (by omega)]; rfl), u32_and_nat a _ ha (mask_lt _), He0.out]]
      all_goals
        go_roundw
        case rel => exact ⟨.inr (.inl ⟨rfl, (Hs1.out.set 0 (by omega) e0).drewn⟩), (Hs3.out.grown (grownBy_set _ w.heap.size 0 _) (by simp)).drewn, (hbw.setCell (Nat.le_refl _) _).drew⟩
        case measure => simp [intOf]
    · obtain ⟨p0, p1, f0, f1⟩ := Hs1.out
      go_wp2
      go_region
      all_goals go_wp2
      all_goals rw [show bits BinOp.and IntKind.u32 (b : Int) ((2 ^ min (q - 32).toNat 32 - 1) % 4294967296) = ((e1 : Nat) : Int) from by rw [show (q - 32).toNat = q.toNat - 32 from by omega, mask_int, u32_and_nat b _ hb (mask_lt _), He1.out]]
      all_goals
        go_roundw
        case rel => exact ⟨.inr (.inr ⟨rfl, (Hs1.out.set 32 (by omega) e1).drewn⟩), (Hs3.out.grown (grownBy_set _ w.heap.size 1 _) (by simp)).drewn, (hbw.setCell (Nat.le_refl _) _).drew⟩
        case measure => simp [intOf]
    · obtain ⟨p0, p1, f0, f1⟩ := Hs1.out
      go_wp2
      obtain ⟨r0, r1⟩ := two_set (.int .u32 ((e0 : Nat) : Int)) (.int .u32 ((e1 : Nat) : Int)) z0 z1
      exact bodyPost_ret (v := .agg #[.int .u32 ((e0 : Nat) : Int), .int .u32 ((e1 : Nat) : Int)]) (by simp [results, Tryd.results20, go_sem, r0, r1]) rfl ⟨rfl, (hbw.setCell (by simp) _).setCell (by simp) _⟩

set_option maxRecDepth 100000 in
set_option maxHeartbeats 2000000 in
theorem below_mid (a b : Nat) (q : Int) (w : World) (ha : a < 4294967296) (hb : b < 4294967296) (hq0 : 0 ≤ q) (hq : q < 32) (hq32 : q - 32 < 0) :
    Calls Tryd.prog 20 #[.agg #[.int .u32 (a : Int), .int .u32 (b : Int)], .int .i64 q] w (RetS w (a &&& mask q.toNat) (b &&& mask (q.toNat - 32))) := by
  obtain ⟨e0, he0⟩ : ∃ e0, a &&& mask q.toNat = e0 := ⟨_, rfl⟩
  obtain ⟨e1, he1⟩ : ∃ e1, b &&& mask (q.toNat - 32) = e1 := ⟨_, rfl⟩
  rw [he0, he1]
  have He0 := Lib.hid he0
  have He1 := Lib.hid he1
  clear he0 he1
  obtain ⟨X, hX⟩ : ∃ X, ((w.alloc (.cells #[.int .u32 (a : Int), .int .u32 (b : Int)] 25)).alloc (.cells #[.int .u32 0, .int .u32 0] 25)) = X := ⟨_, rfl⟩
  have hbel : Below w.heap.size w X := by rw [← hX]; exact ((Below.refl _ _).alloc (Nat.le_refl _) _).alloc (by simp) _
  have hs1 : IsSet X w.heap.size a b := by rw [← hX]; exact (isSet_new w a b).grown (World.grownBy_alloc _ _ none) (by simp)
  have hs3 : IsSet X (w.heap.size + 1) 0 0 := by
    rw [← hX]
    simpa using isSet_new (w.alloc (.cells #[.int .u32 (a : Int), .int .u32 (b : Int)] 25)) 0 0
  have HX := Lib.hid hX
  clear hX
  go_enter Tryd.func20, Tryd.ntmps20
  go_wp2_with fail
  rw [HX.out]
  go_loopw [8] (fun i wr => ((i = .int .i64 0 ∧ Hid (IsSet wr w.heap.size a b)) ∨ (i = .int .i64 1 ∧ Hid (IsSet wr w.heap.size e0 b)) ∨ (i = .int .i64 2 ∧ Hid (IsSet wr w.heap.size e0 e1))) ∧ Hid (IsSet wr (w.heap.size + 1) 0 0) ∧ Below w.heap.size w wr)
    (fun i _ => 2 - (intOf i).toNat)
  case atStart => exact ⟨.inl ⟨rfl, hs1⟩, hs3, hbel⟩
  case round =>
    clear hs1 hs3 hbel HX
    obtain ⟨hs, Hs3, hbw⟩ := hrel
    obtain ⟨z0, z1, g0, g1⟩ := Hs3.out
    rcases hs with ⟨rfl, Hs1⟩ | ⟨rfl, Hs1⟩ | ⟨rfl, Hs1⟩
    · obtain ⟨p0, p1, f0, f1⟩ := Hs1.out
      go_wp2
      go_region
      all_goals go_wp2
      all_goals rw [show bits BinOp.and IntKind.u32 (a : Int) ((2 ^ q.toNat - 1) % 4294967296) = ((e0 : Nat) : Int) from by rw [show ((2 : Int) ^ q.toNat - 1) % 4294967296 = ((mask q.toNat : Nat) : Int) from by (rw [← mask_int, Nat.min_eq_left (by omega)]), u32_and_nat a _ ha (mask_lt _), He0.out]]
      all_goals
        go_roundw
        case rel => exact ⟨.inr (.inl ⟨rfl, (Hs1.out.set 0 (by omega) e0).drewn⟩), (Hs3.out.grown (grownBy_set _ w.heap.size 0 _) (by simp)).drewn, (hbw.setCell (Nat.le_refl _) _).drew⟩
        case measure => simp [intOf]
    · obtain ⟨p0, p1, f0, f1⟩ := Hs1.out
      go_wp2
      go_region
      all_goals go_wp2
      all_goals rw [show bits BinOp.and IntKind.u32 (b : Int) 0 = ((e1 : Nat) : Int) from by rw [show (0 : Int) = ((mask 0 : Nat) : Int) from by rw [mask_zero]; rfl, u32_and_nat b _ hb (mask_lt _), ← He1.out, show q.toNat - 32 = 0 from by omega]]
      all_goals
        go_roundw
        case rel => exact ⟨.inr (.inr ⟨rfl, (Hs1.out.set 32 (by omega) e1).drewn⟩), (Hs3.out.grown (grownBy_set _ w.heap.size 1 _) (by simp)).drewn, (hbw.setCell (Nat.le_refl _) _).drew⟩
        case measure => simp [intOf]
    · obtain ⟨p0, p1, f0, f1⟩ := Hs1.out
      go_wp2
      obtain ⟨r0, r1⟩ := two_set (.int .u32 ((e0 : Nat) : Int)) (.int .u32 ((e1 : Nat) : Int)) z0 z1
      exact bodyPost_ret (v := .agg #[.int .u32 ((e0 : Nat) : Int), .int .u32 ((e1 : Nat) : Int)]) (by simp [results, Tryd.results20, go_sem, r0, r1]) rfl ⟨rfl, (hbw.setCell (by simp) _).setCell (by simp) _⟩

set_option maxRecDepth 100000 in
set_option maxHeartbeats 2000000 in
theorem below_low (a b : Nat) (q : Int) (w : World) (ha : a < 4294967296) (hb : b < 4294967296) (hq0 : q < 0) :
    Calls Tryd.prog 20 #[.agg #[.int .u32 (a : Int), .int .u32 (b : Int)], .int .i64 q] w (RetS w (a &&& mask q.toNat) (b &&& mask (q.toNat - 32))) := by
  obtain ⟨e0, he0⟩ : ∃ e0, a &&& mask q.toNat = e0 := ⟨_, rfl⟩
  obtain ⟨e1, he1⟩ : ∃ e1, b &&& mask (q.toNat - 32) = e1 := ⟨_, rfl⟩
  rw [he0, he1]
  have He0 := Lib.hid he0
  have He1 := Lib.hid he1
  clear he0 he1
  obtain ⟨X, hX⟩ : ∃ X, ((w.alloc (.cells #[.int .u32 (a : Int), .int .u32 (b : Int)] 25)).alloc (.cells #[.int .u32 0, .int .u32 0] 25)) = X := ⟨_, rfl⟩
  have hbel : Below w.heap.size w X := by rw [← hX]; exact ((Below.refl _ _).alloc (Nat.le_refl _) _).alloc (by simp) _
  have hs1 : IsSet X w.heap.size a b := by rw [← hX]; exact (isSet_new w a b).grown (World.grownBy_alloc _ _ none) (by simp)
  have hs3 : IsSet X (w.heap.size + 1) 0 0 := by
    rw [← hX]
    simpa using isSet_new (w.alloc (.cells #[.int .u32 (a : Int), .int .u32 (b : Int)] 25)) 0 0
  have HX := Lib.hid hX
  clear hX
  go_enter Tryd.func20, Tryd.ntmps20
  go_wp2_with fail
  rw [HX.out]
  go_loopw [8] (fun i wr => ((i = .int .i64 0 ∧ Hid (IsSet wr w.heap.size a b)) ∨ (i = .int .i64 1 ∧ Hid (IsSet wr w.heap.size e0 b)) ∨ (i = .int .i64 2 ∧ Hid (IsSet wr w.heap.size e0 e1))) ∧ Hid (IsSet wr (w.heap.size + 1) 0 0) ∧ Below w.heap.size w wr)
    (fun i _ => 2 - (intOf i).toNat)
  case atStart => exact ⟨.inl ⟨rfl, hs1⟩, hs3, hbel⟩
  case round =>
    clear hs1 hs3 hbel HX
    obtain ⟨hs, Hs3, hbw⟩ := hrel
    obtain ⟨z0, z1, g0, g1⟩ := Hs3.out
    rcases hs with ⟨rfl, Hs1⟩ | ⟨rfl, Hs1⟩ | ⟨rfl, Hs1⟩
    · obtain ⟨p0, p1, f0, f1⟩ := Hs1.out
      go_wp2
      go_region
      all_goals go_wp2
      all_goals rw [show bits BinOp.and IntKind.u32 (a : Int) 0 = ((e0 : Nat) : Int) from by rw [show (0 : Int) = ((mask 0 : Nat) : Int) from by rw [mask_zero]; rfl, u32_and_nat a _ ha (mask_lt _), ← He0.out, show q.toNat = 0 from by omega]]
      all_goals
        go_roundw
        case rel => exact ⟨.inr (.inl ⟨rfl, (Hs1.out.set 0 (by omega) e0).drewn⟩), (Hs3.out.grown (grownBy_set _ w.heap.size 0 _) (by simp)).drewn, (hbw.setCell (Nat.le_refl _) _).drew⟩
        case measure => simp [intOf]
    · obtain ⟨p0, p1, f0, f1⟩ := Hs1.out
      go_wp2
      go_region
      all_goals go_wp2
      all_goals rw [show bits BinOp.and IntKind.u32 (b : Int) 0 = ((e1 : Nat) : Int) from by rw [show (0 : Int) = ((mask 0 : Nat) : Int) from by rw [mask_zero]; rfl, u32_and_nat b _ hb (mask_lt _), ← He1.out, show q.toNat - 32 = 0 from by omega]]
      all_goals
        go_roundw
        case rel => exact ⟨.inr (.inr ⟨rfl, (Hs1.out.set 32 (by omega) e1).drewn⟩), (Hs3.out.grown (grownBy_set _ w.heap.size 1 _) (by simp)).drewn, (hbw.setCell (Nat.le_refl _) _).drew⟩
        case measure => simp [intOf]
    · obtain ⟨p0, p1, f0, f1⟩ := Hs1.out
      go_wp2
      obtain ⟨r0, r1⟩ := two_set (.int .u32 ((e0 : Nat) : Int)) (.int .u32 ((e1 : Nat) : Int)) z0 z1
      exact bodyPost_ret (v := .agg #[.int .u32 ((e0 : Nat) : Int), .int .u32 ((e1 : Nat) : Int)]) (by simp [results, Tryd.results20, go_sem, r0, r1]) rfl ⟨rfl, (hbw.setCell (by simp) _).setCell (by simp) _⟩

theorem below_any (a b : Nat) (q : Int) (w : World) (ha : a < 4294967296) (hb : b < 4294967296) (hq : q ≤ 9223372036854775807) :
    Calls Tryd.prog 20 #[.agg #[.int .u32 (a : Int), .int .u32 (b : Int)], .int .i64 q] w (RetS w (a &&& mask q.toNat) (b &&& mask (q.toNat - 32))) := by
  by_cases h : q < 0
  · exact below_low a b q w ha hb h
  · by_cases h2 : q < 32
    · exact below_mid a b q w ha hb (by omega) h2 (by omega)
    · exact below_big a b q w ha hb (by omega) hq (by omega) (by omega)
end Go.Proofs.YthpinbngggcgcaaDoor
