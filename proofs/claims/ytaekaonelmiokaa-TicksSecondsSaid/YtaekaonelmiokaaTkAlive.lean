/-
  The law's own function alive, and the walk of TicksNames: both return true, and turn nothing.
-/
import Derived.Test.YtaekaonelmiokaaTkFrom
import Derived.Test.YtaekaonelmiokaaTkLeast
namespace Go.Proofs.Ytaekaonelmiokaa
open Go.RowKit

theorem dl_val {now after d : Int} (w : World) (h : U now) (g : U after) (e : dl now after = d) : Calls Try.prog 9 #[.int .u64 now, .int .u64 after] w fun e w' => e = .returned (.int .u64 d) ∧ w = w' :=
  (dl_any now after w h g).mono fun _ _ ⟨he, hw⟩ => ⟨by rw [he, e], hw⟩
theorem lf_val {now after d : Int} (w : World) (h : U now) (g : U after) (e : lf now after = d) : Calls Try.prog 11 #[.int .u64 now, .int .u64 after] w fun e w' => e = .returned (.int .u64 d) ∧ w = w' :=
  (lf_any now after w h g).mono fun _ _ ⟨he, hw⟩ => ⟨by rw [he, e], hw⟩
theorem wt_val {l d : Int} {b : Bool} (w : World) (h : U l) (e : wt l b = d) : Calls Try.prog 15 #[.int .u64 l, .bool b] w fun e w' => e = .returned (.int .u64 d) ∧ w = w' :=
  (wt_any l b w h).mono fun _ _ ⟨he, hw⟩ => ⟨by rw [he, e], hw⟩
theorem pair_val {x s c r g : Int} (w : World) (h : U x) (hs : I s) (e : pc x s = c ∧ pr x s = r ∧ pe x s = g) : Calls Try.prog 17 #[.int .u64 x, .int .i64 s] w fun e w' => e = .returned (.tuple #[.int .i64 c, .int .i64 r, .int .i64 g]) ∧ w = w' :=
  (pair_any x s w h hs).mono fun _ _ ⟨he, hw⟩ => ⟨by rw [he, e.1, e.2.1, e.2.2], hw⟩
theorem from_val {c r s x g : Int} (w : World) (hc : I c) (hr : I r) (hs : I s) (e : fw c r s = x ∧ fe c r s = g) : Calls Try.prog 19 #[.int .i64 c, .int .i64 r, .int .i64 s] w fun e w' => e = .returned (.tuple #[.int .u64 x, .int .i64 g]) ∧ w = w' :=
  (fromPair_any c r s w hc hr hs).mono fun _ _ ⟨he, hw⟩ => ⟨by rw [he, e.1, e.2], hw⟩
theorem single_val {x n g : Int} (w : World) (h : U x) (e : sn x = n ∧ se x = g) : Calls Try.prog 21 #[.int .u64 x] w fun e w' => e = .returned (.tuple #[.int .i64 n, .int .i64 g]) ∧ w = w' :=
  (single_any x w h).mono fun _ _ ⟨he, hw⟩ => ⟨by rw [he, e.1, e.2], hw⟩
theorem fromSingle_val {n x g : Int} (w : World) (h : I n) (e : gw n = x ∧ ge n = g) : Calls Try.prog 23 #[.int .i64 n] w fun e w' => e = .returned (.tuple #[.int .u64 x, .int .i64 g]) ∧ w = w' :=
  (fromSingle_any n w h).mono fun _ _ ⟨he, hw⟩ => ⟨by rw [he, e.1, e.2], hw⟩
theorem least_val {zs : List Int} {v : Value} {d : Int} (w : World) (h : IsU w v zs) (e : minI zs = d) : Calls Try.prog 13 #[v] w fun e w' => e = .returned (.int .u64 d) ∧ w = w' :=
  (least_any zs v w h).mono fun _ _ ⟨he, hw⟩ => ⟨by rw [he, e], hw⟩

set_option maxRecDepth 100000 in
set_option maxHeartbeats 2000000 in
theorem alive_any (w : World) : Calls Try.prog 25 #[] w fun e w' => e = .returned (.bool true) ∧ w = w' := by
  have P := Lib.hid (pair_val (x := 2500) (s := 1000) (c := 2) (r := 500000) (g := 0) w ⟨by decide, by decide⟩ ⟨by decide, by decide⟩ (by decide))
  have D := Lib.hid (dl_val (now := 5) (after := 10) (d := 15) w ⟨by decide, by decide⟩ ⟨by decide, by decide⟩ (by decide))
  have F := Lib.hid (lf_val (now := 10) (after := 15) (d := 5) w ⟨by decide, by decide⟩ ⟨by decide, by decide⟩ (by decide))
  have T := Lib.hid (wt_val (l := 7) (b := false) (d := 7) w ⟨by decide, by decide⟩ (by decide))
  go_enter Try.func25, Try.ntmps25
  go_wp2_with (first
    | (go_at_call 17; refine P.out.mono ?_; rintro e w' ⟨rfl, rfl⟩)
    | (go_at_call 9; refine D.out.mono ?_; rintro e w' ⟨rfl, rfl⟩)
    | (go_at_call 11; refine F.out.mono ?_; rintro e w' ⟨rfl, rfl⟩)
    | (go_at_call 15; refine T.out.mono ?_; rintro e w' ⟨rfl, rfl⟩))
  go_ret
  exact ⟨rfl, rfl⟩

theorem isU_nil (w : World) : IsU w (.slice none 0 0) [] := ⟨none, 0, rfl, Nat.le_refl _, Nat.zero_le _, fun _ h => (List.not_mem_nil h).elim, .inl rfl⟩

set_option maxRecDepth 100000 in
set_option maxHeartbeats 4000000 in
theorem names_any (w : World) : Calls Try.prog 5 #[] w fun e w' => e = .returned (.bool true) ∧ w = w' := by
  have u1 : ∀ n : Int, (0 ≤ n ∧ n ≤ 18446744073709551615) → U n := fun _ h => h
  have i1 : ∀ n : Int, (-9223372036854775808 ≤ n ∧ n ≤ 9223372036854775807) → I n := fun _ h => h
  have A := Lib.hid (alive_any w)
  have P1 := Lib.hid (pair_val (x := 1) (s := 1000000) (c := 0) (r := 1000000) (g := 0) w (u1 _ (by decide)) (i1 _ (by decide)) (by decide))
  have P2 := Lib.hid (pair_val (x := 18446744073709551615) (s := 1000) (c := -1) (r := -1) (g := 0) w (u1 _ (by decide)) (i1 _ (by decide)) (by decide))
  have P3 := Lib.hid (pair_val (x := 1048577) (s := 1000) (c := 0) (r := 0) (g := 2) w (u1 _ (by decide)) (i1 _ (by decide)) (by decide))
  have P4 := Lib.hid (pair_val (x := 1) (s := 10) (c := 0) (r := 0) (g := 2) w (u1 _ (by decide)) (i1 _ (by decide)) (by decide))
  have F1 := Lib.hid (from_val (c := 2) (r := 500000) (s := 1000) (x := 2500) (g := 0) w (i1 _ (by decide)) (i1 _ (by decide)) (i1 _ (by decide)) (by decide))
  have F2 := Lib.hid (from_val (c := 0) (r := 1) (s := 1000) (x := 0) (g := 2) w (i1 _ (by decide)) (i1 _ (by decide)) (i1 _ (by decide)) (by decide))
  have G1 := Lib.hid (fromSingle_val (n := -2) (x := 0) (g := 2) w (i1 _ (by decide)) (by decide))
  have S1 := Lib.hid (single_val (x := 18446744073709551615) (n := -1) (g := 0) w (u1 _ (by decide)) (by decide))
  have D1 := Lib.hid (dl_val (now := 18446744073709551613) (after := 10) (d := 18446744073709551615) w (u1 _ (by decide)) (u1 _ (by decide)) (by decide))
  have L1 := Lib.hid (lf_val (now := 20) (after := 15) (d := 0) w (u1 _ (by decide)) (u1 _ (by decide)) (by decide))
  have T1 := Lib.hid (wt_val (l := 1073741824) (b := false) (d := 1048576) w (u1 _ (by decide)) (by decide))
  have T2 := Lib.hid (wt_val (l := 7) (b := true) (d := 0) w (u1 _ (by decide)) (by decide))
  have T3 := Lib.hid (wt_val (l := 18446744073709551615) (b := false) (d := 18446744073709551615) w (u1 _ (by decide)) (by decide))
  have E1 := Lib.hid (least_val (d := 18446744073709551615) w (isU_nil w) (by decide))
  clear u1 i1
  go_enter Try.func5, Try.ntmps5
  go_wp2_with fail
  refine P1.out.mono ?_; rintro e w' ⟨rfl, rfl⟩
  go_wp2_with fail
  refine F1.out.mono ?_; rintro e w' ⟨rfl, rfl⟩
  go_wp2_with fail
  refine F2.out.mono ?_; rintro e w' ⟨rfl, rfl⟩
  go_wp2_with fail
  refine G1.out.mono ?_; rintro e w' ⟨rfl, rfl⟩
  go_wp2_with fail
  refine P2.out.mono ?_; rintro e w' ⟨rfl, rfl⟩
  go_wp2_with fail
  refine P3.out.mono ?_; rintro e w' ⟨rfl, rfl⟩
  go_wp2_with fail
  refine P4.out.mono ?_; rintro e w' ⟨rfl, rfl⟩
  go_wp2_with fail
  refine S1.out.mono ?_; rintro e w' ⟨rfl, rfl⟩
  go_wp2_with fail
  refine A.out.mono ?_; rintro e w' ⟨rfl, rfl⟩
  go_wp2_with fail
  refine D1.out.mono ?_; rintro e w' ⟨rfl, rfl⟩
  go_wp2_with fail
  refine L1.out.mono ?_; rintro e w' ⟨rfl, rfl⟩
  go_wp2_with fail
  refine T1.out.mono ?_; rintro e w' ⟨rfl, rfl⟩
  go_wp2_with fail
  refine T2.out.mono ?_; rintro e w' ⟨rfl, rfl⟩
  go_wp2_with fail
  refine T3.out.mono ?_; rintro e w' ⟨rfl, rfl⟩
  go_wp2_with fail
  refine E1.out.mono ?_; rintro e w' ⟨rfl, rfl⟩
  go_wp2_with fail
  go_ret
  exact ⟨rfl, rfl⟩
end Go.Proofs.Ytaekaonelmiokaa
