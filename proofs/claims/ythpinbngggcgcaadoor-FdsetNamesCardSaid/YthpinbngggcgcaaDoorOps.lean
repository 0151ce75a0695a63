/-
  The contracts of package fdset's And, Or and Less: what each returns, for any two sets.
-/
import Derived.Test.YthpinbngggcgcaaDoorSets
import Derived.Deep.LoopGhost
namespace Go.Proofs.YthpinbngggcgcaaDoor
open Go.RowKit

set_option maxRecDepth 100000 in
set_option maxHeartbeats 2000000 in
theorem and_any (a b c d : Nat) (w : World) (ha : a < 4294967296) (hb : b < 4294967296) (hc : c < 4294967296) (hd : d < 4294967296) :
    Calls Tryd.prog 29 #[.agg #[.int .u32 (a : Int), .int .u32 (b : Int)], .agg #[.int .u32 (c : Int), .int .u32 (d : Int)]] w (RetS w (a &&& c) (b &&& d)) := by
  obtain ⟨X, hX⟩ : ∃ X, ((w.alloc (.cells #[.int .u32 (a : Int), .int .u32 (b : Int)] 25)).alloc (.cells #[.int .u32 (c : Int), .int .u32 (d : Int)] 25)).alloc (.cells #[.int .u32 0, .int .u32 0] 25) = X := ⟨_, rfl⟩
  have hbel : Below w.heap.size w X := by rw [← hX]; exact (((Below.refl _ _).alloc (Nat.le_refl _) _).alloc (by simp) _).alloc (by simp; omega) _
  have hs1 : IsSet X w.heap.size a b := by rw [← hX]; exact ((isSet_new w a b).grown (World.grownBy_alloc _ _ none) (by simp)).grown (World.grownBy_alloc _ _ none) (by simp)
  have hs2 : IsSet X (w.heap.size + 1) c d := by
    rw [← hX]
    have h := (isSet_new (w.alloc (.cells #[.int .u32 (a : Int), .int .u32 (b : Int)] 25)) c d).grown (World.grownBy_alloc _ (.cells #[.int .u32 0, .int .u32 0] 25) none) (by simp)
    simpa using h
  have hs3 : IsSet X (w.heap.size + 1 + 1) 0 0 := by
    rw [← hX]
    have h := isSet_new ((w.alloc (.cells #[.int .u32 (a : Int), .int .u32 (b : Int)] 25)).alloc (.cells #[.int .u32 (c : Int), .int .u32 (d : Int)] 25)) 0 0
    simpa using h
  have HX := Lib.hid hX
  clear hX
  go_enter Tryd.func29, Tryd.ntmps29
  go_wp2_with fail
  rw [HX.out]
  go_loopw [6] (fun i wr => ((i = .int .i64 0 ∧ IsSet wr w.heap.size a b) ∨ (i = .int .i64 1 ∧ IsSet wr w.heap.size (a &&& c) b) ∨ (i = .int .i64 2 ∧ IsSet wr w.heap.size (a &&& c) (b &&& d))) ∧ IsSet wr (w.heap.size + 1) c d ∧ IsSet wr (w.heap.size + 1 + 1) 0 0 ∧ Below w.heap.size w wr)
    (fun i _ => 2 - (intOf i).toNat)
  case atStart => exact ⟨.inl ⟨rfl, hs1⟩, hs2, hs3, hbel⟩
  case round =>
    clear hs1 hs2 hs3 hbel HX
    obtain ⟨hs1, hs2, hs3, hbw⟩ := hrel
    have Hs2 := Lib.hid hs2
    have Hs3 := Lib.hid hs3
    obtain ⟨q0, q1, _, _⟩ := hs2
    obtain ⟨z0, z1, g0, g1⟩ := hs3
    rcases hs1 with ⟨rfl, hs1⟩ | ⟨rfl, hs1⟩ | ⟨rfl, hs1⟩
    · have Hs1 := Lib.hid hs1
      obtain ⟨p0, p1, f0, f1⟩ := hs1
      go_wp2
      go_region
      all_goals go_wp2
      all_goals rw [u32_and_nat _ _ ha hc]
      all_goals
        go_roundw
        case rel => exact ⟨.inr (.inl ⟨rfl, (Hs1.out.set 0 (by omega) (a &&& c)).drewn⟩), (Hs2.out.grown (grownBy_set _ w.heap.size 0 _) (by simp)).drewn, (Hs3.out.grown (grownBy_set _ w.heap.size 0 _) (by simp; omega)).drewn, (hbw.setCell (Nat.le_refl _) _).drew⟩
        case measure => simp [intOf]
    · have Hs1 := Lib.hid hs1
      obtain ⟨p0, p1, f0, f1⟩ := hs1
      go_wp2
      go_region
      all_goals go_wp2
      all_goals rw [u32_and_nat _ _ hb hd]
      all_goals
        go_roundw
        case rel => exact ⟨.inr (.inr ⟨rfl, (Hs1.out.set 32 (by omega) (b &&& d)).drewn⟩), (Hs2.out.grown (grownBy_set _ w.heap.size 1 _) (by simp)).drewn, (Hs3.out.grown (grownBy_set _ w.heap.size 1 _) (by simp; omega)).drewn, (hbw.setCell (Nat.le_refl _) _).drew⟩
        case measure => simp [intOf]
    · obtain ⟨p0, p1, f0, f1⟩ := hs1
      go_wp2
      obtain ⟨r0, r1⟩ := two_set (.int .u32 ((a &&& c : Nat) : Int)) (.int .u32 ((b &&& d : Nat) : Int)) z0 z1
      exact bodyPost_ret (v := .agg #[.int .u32 ((a &&& c : Nat) : Int), .int .u32 ((b &&& d : Nat) : Int)]) (by simp [results, Tryd.results29, go_sem, r0, r1]) rfl ⟨rfl, (hbw.setCell (by show w.heap.size ≤ w.heap.size + 1 + 1; omega) _).setCell (by show w.heap.size ≤ w.heap.size + 1 + 1; omega) _⟩

set_option maxRecDepth 100000 in
set_option maxHeartbeats 2000000 in
theorem or_any (a b c d : Nat) (w : World) (ha : a < 4294967296) (hb : b < 4294967296) (hc : c < 4294967296) (hd : d < 4294967296) :
    Calls Tryd.prog 31 #[.agg #[.int .u32 (a : Int), .int .u32 (b : Int)], .agg #[.int .u32 (c : Int), .int .u32 (d : Int)]] w (RetS w (a ||| c) (b ||| d)) := by
  obtain ⟨X, hX⟩ : ∃ X, ((w.alloc (.cells #[.int .u32 (a : Int), .int .u32 (b : Int)] 25)).alloc (.cells #[.int .u32 (c : Int), .int .u32 (d : Int)] 25)).alloc (.cells #[.int .u32 0, .int .u32 0] 25) = X := ⟨_, rfl⟩
  have hbel : Below w.heap.size w X := by rw [← hX]; exact (((Below.refl _ _).alloc (Nat.le_refl _) _).alloc (by simp) _).alloc (by simp; omega) _
  have hs1 : IsSet X w.heap.size a b := by rw [← hX]; exact ((isSet_new w a b).grown (World.grownBy_alloc _ _ none) (by simp)).grown (World.grownBy_alloc _ _ none) (by simp)
  have hs2 : IsSet X (w.heap.size + 1) c d := by
    rw [← hX]
    have h := (isSet_new (w.alloc (.cells #[.int .u32 (a : Int), .int .u32 (b : Int)] 25)) c d).grown (World.grownBy_alloc _ (.cells #[.int .u32 0, .int .u32 0] 25) none) (by simp)
    simpa using h
  have hs3 : IsSet X (w.heap.size + 1 + 1) 0 0 := by
    rw [← hX]
    have h := isSet_new ((w.alloc (.cells #[.int .u32 (a : Int), .int .u32 (b : Int)] 25)).alloc (.cells #[.int .u32 (c : Int), .int .u32 (d : Int)] 25)) 0 0
    simpa using h
  have HX := Lib.hid hX
  clear hX
  go_enter Tryd.func31, Tryd.ntmps31
  go_wp2_with fail
  rw [HX.out]
  go_loopw [6] (fun i wr => ((i = .int .i64 0 ∧ IsSet wr w.heap.size a b) ∨ (i = .int .i64 1 ∧ IsSet wr w.heap.size (a ||| c) b) ∨ (i = .int .i64 2 ∧ IsSet wr w.heap.size (a ||| c) (b ||| d))) ∧ IsSet wr (w.heap.size + 1) c d ∧ IsSet wr (w.heap.size + 1 + 1) 0 0 ∧ Below w.heap.size w wr)
    (fun i _ => 2 - (intOf i).toNat)
  case atStart => exact ⟨.inl ⟨rfl, hs1⟩, hs2, hs3, hbel⟩
  case round =>
    clear hs1 hs2 hs3 hbel HX
    obtain ⟨hs1, hs2, hs3, hbw⟩ := hrel
    have Hs2 := Lib.hid hs2
    have Hs3 := Lib.hid hs3
    obtain ⟨q0, q1, _, _⟩ := hs2
    obtain ⟨z0, z1, g0, g1⟩ := hs3
    rcases hs1 with ⟨rfl, hs1⟩ | ⟨rfl, hs1⟩ | ⟨rfl, hs1⟩
    · have Hs1 := Lib.hid hs1
      obtain ⟨p0, p1, f0, f1⟩ := hs1
      go_wp2
      go_region
      all_goals go_wp2
      all_goals rw [u32_or_nat _ _ ha hc]
      all_goals
        go_roundw
        case rel => exact ⟨.inr (.inl ⟨rfl, (Hs1.out.set 0 (by omega) (a ||| c)).drewn⟩), (Hs2.out.grown (grownBy_set _ w.heap.size 0 _) (by simp)).drewn, (Hs3.out.grown (grownBy_set _ w.heap.size 0 _) (by simp; omega)).drewn, (hbw.setCell (Nat.le_refl _) _).drew⟩
        case measure => simp [intOf]
    · have Hs1 := Lib.hid hs1
      obtain ⟨p0, p1, f0, f1⟩ := hs1
      go_wp2
      go_region
      all_goals go_wp2
      all_goals rw [u32_or_nat _ _ hb hd]
      all_goals
        go_roundw
        case rel => exact ⟨.inr (.inr ⟨rfl, (Hs1.out.set 32 (by omega) (b ||| d)).drewn⟩), (Hs2.out.grown (grownBy_set _ w.heap.size 1 _) (by simp)).drewn, (Hs3.out.grown (grownBy_set _ w.heap.size 1 _) (by simp; omega)).drewn, (hbw.setCell (Nat.le_refl _) _).drew⟩
        case measure => simp [intOf]
    · obtain ⟨p0, p1, f0, f1⟩ := hs1
      go_wp2
      obtain ⟨r0, r1⟩ := two_set (.int .u32 ((a ||| c : Nat) : Int)) (.int .u32 ((b ||| d : Nat) : Int)) z0 z1
      exact bodyPost_ret (v := .agg #[.int .u32 ((a ||| c : Nat) : Int), .int .u32 ((b ||| d : Nat) : Int)]) (by simp [results, Tryd.results31, go_sem, r0, r1]) rfl ⟨rfl, (hbw.setCell (by show w.heap.size ≤ w.heap.size + 1 + 1; omega) _).setCell (by show w.heap.size ≤ w.heap.size + 1 + 1; omega) _⟩

set_option maxRecDepth 100000 in
set_option maxHeartbeats 2000000 in
theorem less_any (a b c d : Nat) (w : World) (ha : a < 4294967296) (hb : b < 4294967296) (hc : c < 4294967296) (hd : d < 4294967296) :
    Calls Tryd.prog 30 #[.agg #[.int .u32 (a : Int), .int .u32 (b : Int)], .agg #[.int .u32 (c : Int), .int .u32 (d : Int)]] w (RetS w (a &&& (4294967295 - c)) (b &&& (4294967295 - d))) := by
  obtain ⟨X, hX⟩ : ∃ X, ((w.alloc (.cells #[.int .u32 (a : Int), .int .u32 (b : Int)] 25)).alloc (.cells #[.int .u32 (c : Int), .int .u32 (d : Int)] 25)).alloc (.cells #[.int .u32 0, .int .u32 0] 25) = X := ⟨_, rfl⟩
  have hbel : Below w.heap.size w X := by rw [← hX]; exact (((Below.refl _ _).alloc (Nat.le_refl _) _).alloc (by simp) _).alloc (by simp; omega) _
  have hs1 : IsSet X w.heap.size a b := by rw [← hX]; exact ((isSet_new w a b).grown (World.grownBy_alloc _ _ none) (by simp)).grown (World.grownBy_alloc _ _ none) (by simp)
  have hs2 : IsSet X (w.heap.size + 1) c d := by
    rw [← hX]
    have h := (isSet_new (w.alloc (.cells #[.int .u32 (a : Int), .int .u32 (b : Int)] 25)) c d).grown (World.grownBy_alloc _ (.cells #[.int .u32 0, .int .u32 0] 25) none) (by simp)
    simpa using h
  have hs3 : IsSet X (w.heap.size + 1 + 1) 0 0 := by
    rw [← hX]
    have h := isSet_new ((w.alloc (.cells #[.int .u32 (a : Int), .int .u32 (b : Int)] 25)).alloc (.cells #[.int .u32 (c : Int), .int .u32 (d : Int)] 25)) 0 0
    simpa using h
  have HX := Lib.hid hX
  clear hX
  go_enter Tryd.func30, Tryd.ntmps30
  go_wp2_with fail
  rw [HX.out]
  go_loopw [6] (fun i wr => ((i = .int .i64 0 ∧ IsSet wr w.heap.size a b) ∨ (i = .int .i64 1 ∧ IsSet wr w.heap.size (a &&& (4294967295 - c)) b) ∨ (i = .int .i64 2 ∧ IsSet wr w.heap.size (a &&& (4294967295 - c)) (b &&& (4294967295 - d)))) ∧ IsSet wr (w.heap.size + 1) c d ∧ IsSet wr (w.heap.size + 1 + 1) 0 0 ∧ Below w.heap.size w wr)
    (fun i _ => 2 - (intOf i).toNat)
  case atStart => exact ⟨.inl ⟨rfl, hs1⟩, hs2, hs3, hbel⟩
  case round =>
    clear hs1 hs2 hs3 hbel HX
    obtain ⟨hs1, hs2, hs3, hbw⟩ := hrel
    have Hs2 := Lib.hid hs2
    have Hs3 := Lib.hid hs3
    obtain ⟨q0, q1, _, _⟩ := hs2
    obtain ⟨z0, z1, g0, g1⟩ := hs3
    rcases hs1 with ⟨rfl, hs1⟩ | ⟨rfl, hs1⟩ | ⟨rfl, hs1⟩
    · have Hs1 := Lib.hid hs1
      obtain ⟨p0, p1, f0, f1⟩ := hs1
      go_wp2
      go_region
      all_goals go_wp2
      all_goals rw [u32_andNot_nat _ _ ha hc]
      all_goals
        go_roundw
        case rel => exact ⟨.inr (.inl ⟨rfl, (Hs1.out.set 0 (by omega) (a &&& (4294967295 - c))).drewn⟩), (Hs2.out.grown (grownBy_set _ w.heap.size 0 _) (by simp)).drewn, (Hs3.out.grown (grownBy_set _ w.heap.size 0 _) (by simp; omega)).drewn, (hbw.setCell (Nat.le_refl _) _).drew⟩
        case measure => simp [intOf]
    · have Hs1 := Lib.hid hs1
      obtain ⟨p0, p1, f0, f1⟩ := hs1
      go_wp2
      go_region
      all_goals go_wp2
      all_goals rw [u32_andNot_nat _ _ hb hd]
      all_goals
        go_roundw
        case rel => exact ⟨.inr (.inr ⟨rfl, (Hs1.out.set 32 (by omega) (b &&& (4294967295 - d))).drewn⟩), (Hs2.out.grown (grownBy_set _ w.heap.size 1 _) (by simp)).drewn, (Hs3.out.grown (grownBy_set _ w.heap.size 1 _) (by simp; omega)).drewn, (hbw.setCell (Nat.le_refl _) _).drew⟩
        case measure => simp [intOf]
    · obtain ⟨p0, p1, f0, f1⟩ := hs1
      go_wp2
      obtain ⟨r0, r1⟩ := two_set (.int .u32 ((a &&& (4294967295 - c) : Nat) : Int)) (.int .u32 ((b &&& (4294967295 - d) : Nat) : Int)) z0 z1
      exact bodyPost_ret (v := .agg #[.int .u32 ((a &&& (4294967295 - c) : Nat) : Int), .int .u32 ((b &&& (4294967295 - d) : Nat) : Int)]) (by simp [results, Tryd.results30, go_sem, r0, r1]) rfl ⟨rfl, (hbw.setCell (by show w.heap.size ≤ w.heap.size + 1 + 1; omega) _).setCell (by show w.heap.size ≤ w.heap.size + 1 + 1; omega) _⟩

end Go.Proofs.YthpinbngggcgcaaDoor
