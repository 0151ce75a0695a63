/-
  The contracts of Seconds and FromSeconds, beside the document's own.
-/
import Derived.Test.YtaekaonelmiokaaTkAlive
import Derived.Test.YtaekaonelmiokaaTkFloat
import Derived.Laws.Externs
import Derived.LoopTactic
namespace Go.Proofs.Ytaekaonelmiokaa
open Go.RowKit

theorem ret_float {a b : Nat} (h : a = b) : Ending.returned (.float .f64 a) = .returned (.float .f64 b) := by rw [h]
theorem fmt64 : FloatKind.f64.format = Ieee.double := rfl

/-! ### Seconds -/
/-- A float that is doubled so often, from 1 on. -/
def dblN (k : Nat) : Nat := if k < 1024 then (1023 + k) * 4503599627370496 else 9218868437227405312
theorem dbl_all : ∀ k, k < 1025 → floatBits .mul .f64 (dblN k) 4611686018427387904 = some (dblN (k + 1)) := by decide +kernel
theorem dbl_step (k : Nat) : floatBits .mul .f64 (dblN k) 4611686018427387904 = some (dblN (k + 1)) := by
  by_cases h : k < 1025
  · exact dbl_all k h
  · have e1 : dblN k = dblN 1024 := by unfold dblN; rw [if_neg (by omega), if_neg (by omega)]
    have e2 : dblN (k + 1) = dblN 1025 := by unfold dblN; rw [if_neg (by omega), if_neg (by omega)]
    rw [e1, e2]
    exact dbl_all 1024 (by omega)
/-- The seconds of a wait. -/
def secsN (x : Int) : Option Nat := if x = 18446744073709551615 then some 9218868437227405312 else floatBits .quo .f64 (floatOfInt .f64 x) 4652007308841189376

theorem run_frombits (n : Int) (w : World) : (callFunc 33 #[.int .u64 n]).run Try.prog w = .ok (.value (.float .f64 n.toNat)) w := by
  rw [run_callFunc_extern (P := Try.prog) (e := Extern.MathFloatBits.float64frombits) Try.func33 (by kernel_rfl) (by kernel_rfl) (by kernel_rfl) (by kernel_rfl)]
  rfl

set_option maxHeartbeats 1000000 in
theorem seconds_any (x : Int) (r : Nat) (w : World) (h : U x) (hr : secsN x = some r) : Calls Try.prog 26 #[.int .u64 x] w fun e w' => e = .returned (.float .f64 r) ∧ w = w' := by
  obtain ⟨h0, h1⟩ := h
  by_cases hn : x = 18446744073709551615
  · subst hn
    obtain rfl : 9218868437227405312 = r := by simpa [secsN] using hr
    clear hr
    have kf := run_frombits 9218868437227405312 w
    go_enter Try.func26, Try.ntmps26
    go_wp2
    go_ret
    exact ⟨rfl, rfl⟩
  · have hr' : floatBits .quo .f64 (floatOfInt .f64 x) 4652007308841189376 = some r := by unfold secsN at hr; rwa [if_neg hn] at hr
    obtain ⟨y, hy⟩ : ∃ y, floatOfInt .f64 x = y := ⟨_, rfl⟩
    have kc := run_convert_int_float (P := Try.prog) w 22 47 .u64 .f64 x (by kernel_rfl) Try.underlying47
    rw [hy] at hr' kc
    have kq := fun w => run_float_arith (P := Try.prog) w .quo 47 .f64 y 4652007308841189376 r hr'
    clear hr hr' hy
    go_enter Try.func26, Try.ntmps26
    go_wp2
    go_ret
    exact ⟨rfl, rfl⟩
set_option maxRecDepth 100000 in
set_option maxHeartbeats 1000000 in
theorem rseconds_any (x : Int) (r : Nat) (w : World) (h : U x) (hr : secsN x = some r) : Calls Try.prog 27 #[.int .u64 x] w fun e w' => e = .returned (.float .f64 r) ∧ w = w' := by
  obtain ⟨h0, h1⟩ := h
  by_cases hn : x = 18446744073709551615
  · subst hn
    obtain rfl : 9218868437227405312 = r := by simpa [secsN] using hr
    clear hr
    go_enter Try.func27, Try.ntmps27
    go_wp2_with fail
    go_loop [3, 4] (fun b i => ∃ k : Nat, k ≤ 2000 ∧ i = .int .i64 (k : Int) ∧ b = .float .f64 (dblN k)) (fun _ i => 2000 - (intOf i).toNat)
    case atStart => exact ⟨0, by omega, rfl, by rw [show dblN 0 = 4607182418800017408 from by decide +kernel]⟩
    case round =>
      obtain ⟨k, hk, rfl, rfl⟩ := hrel
      by_cases hlt : k < 2000
      · have hs := dbl_step k
        obtain ⟨a, ha⟩ : ∃ a, dblN k = a := ⟨_, rfl⟩
        obtain ⟨b, hb⟩ : ∃ a, dblN (k + 1) = a := ⟨_, rfl⟩
        rw [ha, hb] at hs
        rw [ha]
        have kq := fun w => run_float_arith (P := Try.prog) w .mul 47 .f64 a 4611686018427387904 b hs
        have HB := Lib.hid hb
        clear hs ha hb
        go_wp2_with fail
        go_round
        case rel => exact ⟨k + 1, by omega, by go_num, by rw [HB.out]⟩
        case measure => simp [intOf]; omega
      · have hk2 : k = 2000 := by omega
        subst hk2
        have hd : dblN 2000 = 9218868437227405312 := by decide +kernel
        rw [hd]
        go_wp2_with fail
        go_ret
        exact ⟨rfl, rfl⟩
  · have hr' : floatBits .quo .f64 (floatOfInt .f64 x) 4652007308841189376 = some r := by unfold secsN at hr; rwa [if_neg hn] at hr
    obtain ⟨y, hy⟩ : ∃ y, floatOfInt .f64 x = y := ⟨_, rfl⟩
    have kc := run_convert_int_float (P := Try.prog) w 22 47 .u64 .f64 x (by kernel_rfl) Try.underlying47
    rw [hy] at hr' kc
    have kq := fun w => run_float_arith (P := Try.prog) w .quo 47 .f64 y 4652007308841189376 r hr'
    clear hr hr' hy
    go_enter Try.func27, Try.ntmps27
    go_wp2
    go_ret
    exact ⟨rfl, rfl⟩
end Go.Proofs.Ytaekaonelmiokaa
