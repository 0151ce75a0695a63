/-
  The contracts of the document's own answers that gather numbers below 64: Some (for 1, 3, 4) and Of: what each returns for every slice of ints; nothing that lay has turned.
-/
import Derived.Test.YtokfinnmigfkiaaRef
namespace Go.Proofs.Ytokfinnmigfkiaa
open Go.RowKit

theorem in_val (n : Int) (zs : List Int) (v : Value) (w : World) (h : IsL w v zs) (p : Bool) (hp : inB n zs = p) :
    Calls Try.prog 16 #[.int .i64 n, v] w fun e w' => e = .returned (.bool p) ∧ w' = w :=
  (in_any n zs v w h).mono fun _ _ ⟨he, hw⟩ => ⟨by rw [he, hp], hw⟩

set_option maxRecDepth 100000 in
set_option maxHeartbeats 2000000 in
theorem some_1 (xs ys : List Int) (u v : Value) (w : World) (hu : IsL w u xs) (hv : IsL w v ys) :
    Calls Try.prog 9 #[u, v, .int .i64 1] w (RetL w (upTo (fun n => inB (n : Int) xs || inB (n : Int) ys) 64)) := by
  obtain ⟨i0, hi, hz0, hz1, hz2⟩ := info_parts infoInt
  obtain ⟨f, hf⟩ : ∃ f : Nat → Bool, (fun n : Nat => inB (n : Int) xs || inB (n : Int) ys) = f := ⟨_, rfl⟩
  have hfn : ∀ n, f n = (inB (n : Int) xs || inB (n : Int) ys) := fun n => by rw [← hf]
  rw [hf]
  have Hfn := Lib.hid hfn
  clear hf hfn
  go_enter Try.func9, Try.ntmps9
  go_wp2_with fail
  go_loopw [7, 8] (fun o i wr => ∃ k : Nat, k ≤ 64 ∧ i = .int .i64 k ∧ wr.ownsRow w.heap.size 3 1 o (upTo f k).length ((upTo f k).map (Value.int .i64)) ∧ Below w.heap.size w wr)
    (fun _ i _ => 64 - (intOf i).toNat)
  case atStart => exact ⟨0, by omega, rfl, World.ownsRow_nil _ _ _ _, Below.refl _ _⟩
  case round =>
    obtain ⟨k, hk, rfl, hown, hbw⟩ := hrel
    have hsz : w.heap.size ≤ wr.heap.size := hbw.size
    by_cases hlt : k < 64
    · have hle := upTo_le f k
      have hu2 := Lib.hid (hu.below hbw)
      have hv2 := Lib.hid (hv.below hbw)
      cases hp : inB (k : Int) xs <;> cases hq : inB (k : Int) ys
      all_goals
        have hfk := Hfn.out k
        rw [hp, hq] at hfk
        have Hp := Lib.hid hp
        have Hq := Lib.hid hq
        have Hfk := Lib.hid hfk
        clear hp hq hfk
        go_wp2_with fail
        refine (in_val _ xs u _ hu2.out _ Hp.out).mono ?_
        rintro e w2 ⟨rfl, rfl⟩
        go_wp2_with fail
        refine (in_val _ ys v _ hv2.out _ Hq.out).mono ?_
        rintro e w3 ⟨rfl, rfl⟩
        go_wp2_with (at_builtin; refine wpList_append_own _ rfl _ _ 25 rfl w.heap.size 3 i0 (.int .i64 0) 1 8 Try.underlying25 hi hz0 hz1 hz2 rfl (by decide) _ _ _ rfl (hown.alloc _) ⟨World.heap _ |>.size, 0, none⟩ 1 1 [.int .i64 (k : Int)] rfl rfl (cell_one_new _ _ _) (by simp [Value.oneCell']) (by unfold maxLen; omega) (by omega) (by simp; omega) ?_; intro v' w4 hown' hgrow _)
        go_roundw
        case rel => first
          | exact ⟨k + 1, by omega, by go_num, by rw [upTo_miss _ _ (by rw [Hfk.out]; rfl)]; exact hown, hbw⟩
          | exact ⟨k + 1, by omega, by go_num, by rw [upTo_hit _ _ (by rw [Hfk.out]; rfl)]; simpa using hown', (hbw.alloc hsz _).grown hgrow (by simp; omega) (fun j hj => (hown.lt j hj).1)⟩
        case measure => simp [intOf]; omega
    · obtain rfl : k = 64 := by omega
      go_wp2
      go_ret
      exact ⟨_, rfl, isL_of_owns (by have := upTo_le f 64; unfold maxLen; omega) hown, hbw⟩

set_option maxRecDepth 100000 in
set_option maxHeartbeats 2000000 in
theorem some_3 (xs ys : List Int) (u v : Value) (w : World) (hu : IsL w u xs) (hv : IsL w v ys) :
    Calls Try.prog 9 #[u, v, .int .i64 3] w (RetL w (upTo (fun n => inB (n : Int) xs && inB (n : Int) ys) 64)) := by
  obtain ⟨i0, hi, hz0, hz1, hz2⟩ := info_parts infoInt
  obtain ⟨f, hf⟩ : ∃ f : Nat → Bool, (fun n : Nat => inB (n : Int) xs && inB (n : Int) ys) = f := ⟨_, rfl⟩
  have hfn : ∀ n, f n = (inB (n : Int) xs && inB (n : Int) ys) := fun n => by rw [← hf]
  rw [hf]
  have Hfn := Lib.hid hfn
  clear hf hfn
  go_enter Try.func9, Try.ntmps9
  go_wp2_with fail
  go_loopw [7, 8] (fun o i wr => ∃ k : Nat, k ≤ 64 ∧ i = .int .i64 k ∧ wr.ownsRow w.heap.size 3 1 o (upTo f k).length ((upTo f k).map (Value.int .i64)) ∧ Below w.heap.size w wr)
    (fun _ i _ => 64 - (intOf i).toNat)
  case atStart => exact ⟨0, by omega, rfl, World.ownsRow_nil _ _ _ _, Below.refl _ _⟩
  case round =>
    obtain ⟨k, hk, rfl, hown, hbw⟩ := hrel
    have hsz : w.heap.size ≤ wr.heap.size := hbw.size
    by_cases hlt : k < 64
    · have hle := upTo_le f k
      have hu2 := Lib.hid (hu.below hbw)
      have hv2 := Lib.hid (hv.below hbw)
      cases hp : inB (k : Int) xs <;> cases hq : inB (k : Int) ys
      all_goals
        have hfk := Hfn.out k
        rw [hp, hq] at hfk
        have Hp := Lib.hid hp
        have Hq := Lib.hid hq
        have Hfk := Lib.hid hfk
        clear hp hq hfk
        go_wp2_with fail
        refine (in_val _ xs u _ hu2.out _ Hp.out).mono ?_
        rintro e w2 ⟨rfl, rfl⟩
        go_wp2_with fail
        refine (in_val _ ys v _ hv2.out _ Hq.out).mono ?_
        rintro e w3 ⟨rfl, rfl⟩
        go_wp2_with (at_builtin; refine wpList_append_own _ rfl _ _ 25 rfl w.heap.size 3 i0 (.int .i64 0) 1 8 Try.underlying25 hi hz0 hz1 hz2 rfl (by decide) _ _ _ rfl (hown.alloc _) ⟨World.heap _ |>.size, 0, none⟩ 1 1 [.int .i64 (k : Int)] rfl rfl (cell_one_new _ _ _) (by simp [Value.oneCell']) (by unfold maxLen; omega) (by omega) (by simp; omega) ?_; intro v' w4 hown' hgrow _)
        go_roundw
        case rel => first
          | exact ⟨k + 1, by omega, by go_num, by rw [upTo_miss _ _ (by rw [Hfk.out]; rfl)]; exact hown, hbw⟩
          | exact ⟨k + 1, by omega, by go_num, by rw [upTo_hit _ _ (by rw [Hfk.out]; rfl)]; simpa using hown', (hbw.alloc hsz _).grown hgrow (by simp; omega) (fun j hj => (hown.lt j hj).1)⟩
        case measure => simp [intOf]; omega
    · obtain rfl : k = 64 := by omega
      go_wp2
      go_ret
      exact ⟨_, rfl, isL_of_owns (by have := upTo_le f 64; unfold maxLen; omega) hown, hbw⟩

set_option maxRecDepth 100000 in
set_option maxHeartbeats 2000000 in
theorem some_4 (xs ys : List Int) (u v : Value) (w : World) (hu : IsL w u xs) (hv : IsL w v ys) :
    Calls Try.prog 9 #[u, v, .int .i64 4] w (RetL w (upTo (fun n => inB (n : Int) xs && !inB (n : Int) ys) 64)) := by
  obtain ⟨i0, hi, hz0, hz1, hz2⟩ := info_parts infoInt
  obtain ⟨f, hf⟩ : ∃ f : Nat → Bool, (fun n : Nat => inB (n : Int) xs && !inB (n : Int) ys) = f := ⟨_, rfl⟩
  have hfn : ∀ n, f n = (inB (n : Int) xs && !inB (n : Int) ys) := fun n => by rw [← hf]
  rw [hf]
  have Hfn := Lib.hid hfn
  clear hf hfn
  go_enter Try.func9, Try.ntmps9
  go_wp2_with fail
  go_loopw [7, 8] (fun o i wr => ∃ k : Nat, k ≤ 64 ∧ i = .int .i64 k ∧ wr.ownsRow w.heap.size 3 1 o (upTo f k).length ((upTo f k).map (Value.int .i64)) ∧ Below w.heap.size w wr)
    (fun _ i _ => 64 - (intOf i).toNat)
  case atStart => exact ⟨0, by omega, rfl, World.ownsRow_nil _ _ _ _, Below.refl _ _⟩
  case round =>
    obtain ⟨k, hk, rfl, hown, hbw⟩ := hrel
    have hsz : w.heap.size ≤ wr.heap.size := hbw.size
    by_cases hlt : k < 64
    · have hle := upTo_le f k
      have hu2 := Lib.hid (hu.below hbw)
      have hv2 := Lib.hid (hv.below hbw)
      cases hp : inB (k : Int) xs <;> cases hq : inB (k : Int) ys
      all_goals
        have hfk := Hfn.out k
        rw [hp, hq] at hfk
        have Hp := Lib.hid hp
        have Hq := Lib.hid hq
        have Hfk := Lib.hid hfk
        clear hp hq hfk
        go_wp2_with fail
        refine (in_val _ xs u _ hu2.out _ Hp.out).mono ?_
        rintro e w2 ⟨rfl, rfl⟩
        go_wp2_with fail
        refine (in_val _ ys v _ hv2.out _ Hq.out).mono ?_
        rintro e w3 ⟨rfl, rfl⟩
        go_wp2_with (at_builtin; refine wpList_append_own _ rfl _ _ 25 rfl w.heap.size 3 i0 (.int .i64 0) 1 8 Try.underlying25 hi hz0 hz1 hz2 rfl (by decide) _ _ _ rfl (hown.alloc _) ⟨World.heap _ |>.size, 0, none⟩ 1 1 [.int .i64 (k : Int)] rfl rfl (cell_one_new _ _ _) (by simp [Value.oneCell']) (by unfold maxLen; omega) (by omega) (by simp; omega) ?_; intro v' w4 hown' hgrow _)
        go_roundw
        case rel => first
          | exact ⟨k + 1, by omega, by go_num, by rw [upTo_miss _ _ (by rw [Hfk.out]; rfl)]; exact hown, hbw⟩
          | exact ⟨k + 1, by omega, by go_num, by rw [upTo_hit _ _ (by rw [Hfk.out]; rfl)]; simpa using hown', (hbw.alloc hsz _).grown hgrow (by simp; omega) (fun j hj => (hown.lt j hj).1)⟩
        case measure => simp [intOf]; omega
    · obtain rfl : k = 64 := by omega
      go_wp2
      go_ret
      exact ⟨_, rfl, isL_of_owns (by have := upTo_le f 64; unfold maxLen; omega) hown, hbw⟩

end Go.Proofs.Ytokfinnmigfkiaa
