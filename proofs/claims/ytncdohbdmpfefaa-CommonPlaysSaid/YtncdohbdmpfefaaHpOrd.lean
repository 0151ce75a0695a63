/-
  The order of items: its calls of cmp, and its own contract: which of two stands ahead, in a world with some draws and blocks more.
-/
import Derived.Test.YtncdohbdmpfefaaProg
import Derived.Test.YtncdohbdmpfefaaHpPure
import Derived.WalkKit
import Derived.LoopTactic
import Derived.Deep.QuietTactic
import Derived.BigQuiet
import Derived.Deep.RegionHeld3
import Derived.Sort.Grow
import Derived.Below
import Derived.Lib.Hide
namespace Go.Proofs.Ytncdohbdmpfefaa
open Go.RowKit Go.Sort

def encIt (x : It) : List Value := [.int .i64 x.id, .int .u64 x.d, .int .u64 x.n]

theorem nan64 (a : Int) (w : World) : Calls Try.prog 63 #[.int .u64 a] w fun e w' => e = .returned (.bool false) ∧ w = w' := by
  have hb : (a != a) = false := by simp
  go_enter Try.func63, Try.ntmps63
  go_wp2
  go_ret
  exact ⟨rfl, rfl⟩
theorem nanI (a : Int) (w : World) : Calls Try.prog 86 #[.int .i64 a] w fun e w' => e = .returned (.bool false) ∧ w = w' := by
  have hb : (a != a) = false := by simp
  go_enter Try.func86, Try.ntmps86
  go_wp2
  go_ret
  exact ⟨rfl, rfl⟩

theorem cmp64_any (a b : Int) (w : World) : Calls Try.prog 54 #[.int .u64 a, .int .u64 b] w fun e w' => e = .returned (.int .i64 (cmpI a b)) ∧ w = w' := by
  unfold cmpI
  by_cases h1 : a < b
  · rw [if_pos h1]
    go_enter Try.func54, Try.ntmps54
    go_wp2_with (go_at_call 63; refine (nan64 _ _).mono ?_; rintro e w' ⟨rfl, rfl⟩)
    go_ret
    exact ⟨rfl, rfl⟩
  · rw [if_neg h1]
    by_cases h2 : b < a
    · rw [if_pos h2]
      go_enter Try.func54, Try.ntmps54
      go_wp2_with (go_at_call 63; refine (nan64 _ _).mono ?_; rintro e w' ⟨rfl, rfl⟩)
      go_ret
      exact ⟨rfl, rfl⟩
    · rw [if_neg h2]
      go_enter Try.func54, Try.ntmps54
      go_wp2_with (go_at_call 63; refine (nan64 _ _).mono ?_; rintro e w' ⟨rfl, rfl⟩)
      go_ret
      exact ⟨rfl, rfl⟩
theorem cmpI_any (a b : Int) (w : World) : Calls Try.prog 85 #[.int .i64 a, .int .i64 b] w fun e w' => e = .returned (.int .i64 (cmpI a b)) ∧ w = w' := by
  unfold cmpI
  by_cases h1 : a < b
  · rw [if_pos h1]
    go_enter Try.func85, Try.ntmps85
    go_wp2_with (go_at_call 86; refine (nanI _ _).mono ?_; rintro e w' ⟨rfl, rfl⟩)
    go_ret
    exact ⟨rfl, rfl⟩
  · rw [if_neg h1]
    by_cases h2 : b < a
    · rw [if_pos h2]
      go_enter Try.func85, Try.ntmps85
      go_wp2_with (go_at_call 86; refine (nanI _ _).mono ?_; rintro e w' ⟨rfl, rfl⟩)
      go_ret
      exact ⟨rfl, rfl⟩
    · rw [if_neg h2]
      go_enter Try.func85, Try.ntmps85
      go_wp2_with (go_at_call 86; refine (nanI _ _).mono ?_; rintro e w' ⟨rfl, rfl⟩)
      go_ret
      exact ⟨rfl, rfl⟩

/-- cmp.Or of three numbers. -/
theorem or_any (g : Nat) (a b c : Int) (w : World) (h0 : w.cell? ⟨g, 0, none⟩ = some (.int .i64 a)) (h1 : w.cell? ⟨g, 1, none⟩ = some (.int .i64 b)) (h2 : w.cell? ⟨g, 2, none⟩ = some (.int .i64 c)) :
    Calls Try.prog 53 #[.slice (some ⟨g, 0, none⟩) 3 3] w fun e w' => e = .returned (.int .i64 (orI a b c)) ∧ w = w' := by
  go_enter Try.func53, Try.ntmps53
  go_wp2
  go_loop [8] (fun i => i = .int .i64 0 ∨ (i = .int .i64 1 ∧ Hid (a = 0)) ∨ (i = .int .i64 2 ∧ Hid (a = 0) ∧ Hid (b = 0)) ∨ (i = .int .i64 3 ∧ Hid (a = 0) ∧ Hid (b = 0) ∧ Hid (c = 0))) (fun i => (3 - intOf i).toNat)
  case atStart => exact .inl rfl
  case round =>
    rcases hrel with rfl | ⟨rfl, A0⟩ | ⟨rfl, A0, B0⟩ | ⟨rfl, A0, B0, C0⟩
    · by_cases e0 : a = 0
      · have hb : (a != 0) = false := by simpa using e0
        have E0 := Lib.hid e0
        clear e0
        go_wp2
        go_round
        case rel => exact .inr (.inl ⟨rfl, E0⟩)
        case measure => simp [intOf]
      · have hb : (a != 0) = true := by simpa using e0
        have E0 := Lib.hid e0
        clear e0
        go_wp2
        go_ret
        exact ⟨(by unfold orI; rw [if_neg E0.out]; try rfl), rfl⟩
    · by_cases e0 : b = 0
      · have hb : (b != 0) = false := by simpa using e0
        have E0 := Lib.hid e0
        clear e0
        go_wp2
        go_round
        case rel => exact .inr (.inr (.inl ⟨rfl, A0, E0⟩))
        case measure => simp [intOf]
      · have hb : (b != 0) = true := by simpa using e0
        have E0 := Lib.hid e0
        clear e0
        go_wp2
        go_ret
        exact ⟨(by unfold orI; rw [if_pos A0.out, if_neg E0.out]; try rfl), rfl⟩
    · by_cases e0 : c = 0
      · have hb : (c != 0) = false := by simpa using e0
        have E0 := Lib.hid e0
        clear e0
        go_wp2
        go_round
        case rel => exact .inr (.inr (.inr ⟨rfl, A0, B0, E0⟩))
        case measure => simp [intOf]
      · have hb : (c != 0) = true := by simpa using e0
        have E0 := Lib.hid e0
        clear e0
        go_wp2
        go_ret
        exact ⟨(by unfold orI; rw [if_pos A0.out, if_pos B0.out]; try rfl), rfl⟩
    · go_wp2
      go_ret
      exact ⟨(by unfold orI; rw [if_pos A0.out, if_pos B0.out, C0.out]; try rfl), rfl⟩

set_option maxHeartbeats 2000000 in
set_option maxRecDepth 100000 in
theorem order_any (x y : It) (w : World) : Calls Try.prog 83 #[.agg #[.int .i64 x.id, .int .u64 x.d, .int .u64 x.n], .agg #[.int .i64 y.id, .int .u64 y.d, .int .u64 y.n]] w fun e w' => e = .returned (.int .i64 (ordI x y)) ∧ ∃ q os', w' = grow (w.drewN q) os' := by
  obtain ⟨i, d, n⟩ := x
  obtain ⟨i', d', n'⟩ := y
  have H1 := Lib.hid (cmp64_any d d')
  have H2 := Lib.hid (cmp64_any n n')
  have H3 := Lib.hid (cmpI_any i i')
  have H4 := Lib.hid (fun g w h0 h1 h2 => or_any g (cmpI d d') (cmpI n n') (cmpI i i') w h0 h1 h2)
  have e : ordI ⟨i, d, n⟩ ⟨i', d', n'⟩ = orI (cmpI d d') (cmpI n n') (cmpI i i') := rfl
  rw [e]
  clear e
  dsimp only
  generalize cmpI d d' = r1 at *
  generalize cmpI n n' = r2 at *
  generalize cmpI i i' = r3 at *
  go_enter Try.func83, Try.ntmps83
  go_wp2_with fail
  go_region_held3 (fun W => W.cell? ⟨w.heap.size, 0, none⟩ = some (.int .i64 i) ∧ W.cell? ⟨w.heap.size, 1, none⟩ = some (.int .u64 d) ∧ W.cell? ⟨w.heap.size, 2, none⟩ = some (.int .u64 n) ∧ W.cell? ⟨w.heap.size + 1, 0, none⟩ = some (.int .i64 i') ∧ W.cell? ⟨w.heap.size + 1, 1, none⟩ = some (.int .u64 d') ∧ W.cell? ⟨w.heap.size + 1, 2, none⟩ = some (.int .u64 n'))
      (go_keep)
      (first
        | (go_at_call_of 54 (Value.int .u64 d'); refine (H1.out _).mono ?_; rintro e w' ⟨rfl, rfl⟩)
        | (go_at_call_of 54 (Value.int .u64 n'); refine (H2.out _).mono ?_; rintro e w' ⟨rfl, rfl⟩)
        | (go_at_call 85; refine (H3.out _).mono ?_; rintro e w' ⟨rfl, rfl⟩)
        | (go_at_call 53; refine (H4.out _ _ (by go_simp) (by go_simp) (by go_simp)).mono ?_; rintro e w' ⟨rfl, rfl⟩))
  all_goals
    go_wp2_with fail
    go_ret
    exact ⟨rfl, 1, _, by simp only [alloc_eq_grow, grow_grow, drew_grow]; rfl⟩
end Go.Proofs.Ytncdohbdmpfefaa
