/-
  The contracts of FromSeconds, beside the document's own.
-/
import Derived.Test.YtaekaonelmiokaaTkSecs
namespace Go.Proofs.Ytaekaonelmiokaa
open Go.RowKit

/-- Less a NaN, and what is below zero. -/
def posW (s : Nat) : Bool := decide (s ≤ 9218868437227405312)
/-- So many ticks, and the error. -/
def fsN (s : Nat) : Int := if posW s = true then (if mulK s < 4895412794951729152 then (ceI (mulK s) : Int) else 18446744073709551615) else 0
def fsE (s : Nat) : Int := if posW s = true ∨ s = 9223372036854775808 then 0 else 2
section
attribute [local irreducible] FloatKind.decode
theorem ceil_number (x : Nat) (s : Bool) (m : Nat) (p : Int) (e : FloatKind.f64.decode x = .number s m p) : Extern.MathFloor.toIntegral "math.archCeil" .up #[.float .f64 x] = pure (.float .f64 (FloatKind.f64.encode (Ieee.Datum.integral .up (.number s m p)))) := by
  conv => lhs; whnf
  rw [e]
theorem ceil_infinity (x : Nat) (s : Bool) (e : FloatKind.f64.decode x = .infinity s) : Extern.MathFloor.toIntegral "math.archCeil" .up #[.float .f64 x] = pure (.float .f64 (FloatKind.f64.encode (Ieee.Datum.integral .up (.infinity s)))) := by
  conv => lhs; whnf
  rw [e]
end
theorem run_ceil (x d : Nat) (w : World) (hx : ∀ s t, Ieee.double.read x ≠ .nan s t) (hd : Ieee.double.write ((Ieee.double.read x).integral .up) = d) : (callFunc 34 #[.float .f64 x]).run Try.prog w = .ok (.value (.float .f64 d)) w := by
  rw [run_callFunc_extern (P := Try.prog) (e := Extern.MathFloor.toIntegral "math.archCeil" .up) Try.func34 (by kernel_rfl) (by kernel_rfl) (by kernel_rfl) (by kernel_rfl)]
  cases h : Ieee.double.read x with
  | nan s t => exact absurd h (hx s t)
  | infinity s => rw [ceil_infinity x s h, ← hd, h]; rfl
  | number s m p => rw [ceil_number x s m p h, ← hd, h]; rfl

/-- What FromSeconds returns. -/
def RetFS (w : World) (n e : Int) (en : Ending) (w' : World) : Prop := en = .returned (.tuple #[.int .u64 n, .int .i64 e]) ∧ w = w'

theorem isNaN_any (s : Nat) (b : Bool) (w : World) (h : (FloatKind.f64.format.order s s != some .eq) = b) : Calls Try.prog 31 #[.float .f64 s] w fun e w' => e = .returned (.bool b) ∧ w = w' := by
  go_enter Try.func31, Try.ntmps31
  go_wp2
  go_ret
  exact ⟨rfl, rfl⟩
theorem ceil_any (x d : Nat) (w : World) (hx : ∀ s t, Ieee.double.read x ≠ .nan s t) (hd : Ieee.double.write ((Ieee.double.read x).integral .up) = d) : Calls Try.prog 32 #[.float .f64 x] w fun e w' => e = .returned (.float .f64 d) ∧ w = w' := by
  have kc := fun w => run_ceil x d w hx hd
  clear hd hx
  go_enter Try.func32, Try.ntmps32
  go_wp2
  go_ret
  exact ⟨rfl, rfl⟩
/-- What lies before the product is refused. -/
theorem from_refused (s : Nat) (w : World) (h : Ieee.double.order s s = none ∨ (Ieee.double.order s s = some .eq ∧ Ieee.double.order s 0 = some .lt)) : Calls Try.prog 28 #[.float .f64 s] w (RetFS w 0 2) ∧ Calls Try.prog 29 #[.float .f64 s] w (RetFS w 0 2) := by
  rcases h with h | ⟨h, g⟩
  · have k1 : FloatKind.f64.format.order s s = none := h
    have N := Lib.hid (fun w => isNaN_any s true w (by rw [k1]; rfl))
    clear h
    constructor
    · go_enter Try.func28, Try.ntmps28
      go_wp2_with (go_at_call 31; refine (N.out _).mono ?_; rintro e w' ⟨rfl, rfl⟩)
      go_ret2
      exact ⟨rfl, rfl⟩
    · go_enter Try.func29, Try.ntmps29
      go_wp2
      go_ret2
      exact ⟨rfl, rfl⟩
  · have k1 : FloatKind.f64.format.order s s = some .eq := h
    have k2 : FloatKind.f64.format.order s 0 = some .lt := g
    have N := Lib.hid (fun w => isNaN_any s false w (by rw [k1]; rfl))
    clear h g
    constructor
    · go_enter Try.func28, Try.ntmps28
      go_wp2_with (go_at_call 31; refine (N.out _).mono ?_; rintro e w' ⟨rfl, rfl⟩)
      go_ret2
      exact ⟨rfl, rfl⟩
    · go_enter Try.func29, Try.ntmps29
      go_wp2
      go_ret2
      exact ⟨rfl, rfl⟩

theorem to_int (x : Nat) (hx : x < 4895412794951729152) : floatToIntVal .f64 x .u64 = some ((flI x : Nat) : Int) := by
  have h := toInt_pos x (by omega)
  have hu := (ce_u x hx).2.1
  unfold floatToIntVal
  have e1 : FloatKind.f64.decode x = Ieee.double.read x := rfl
  rw [e1, h]
  dsimp only
  rw [if_pos]
  have m1 : IntKind.min .u64 = 0 := by decide +kernel
  have m2 : IntKind.max .u64 = 18446744073709551615 := by decide +kernel
  rw [m1, m2]
  omega
theorem to_int_of (d n : Nat) (hd : d < 9218868437227405312) (h : flI d = n) (hn : n ≤ 18446744073709551615) : floatToIntVal .f64 d .u64 = some (n : Int) := by
  have h' := toInt_pos d hd
  unfold floatToIntVal
  have e1 : FloatKind.f64.decode d = Ieee.double.read d := rfl
  rw [e1, h', h]
  dsimp only
  rw [if_pos]
  have m1 : IntKind.min .u64 = 0 := by decide +kernel
  have m2 : IntKind.max .u64 = 18446744073709551615 := by decide +kernel
  rw [m1, m2]
  omega
theorem not_nan (x : Nat) (hx : x < 9218868437227405312) : ∀ s t, Ieee.double.read x ≠ .nan s t := by
  obtain ⟨m, k, e, _⟩ := read_num x hx
  intro s t h
  rw [e] at h
  cases h

set_option maxRecDepth 100000 in
set_option maxHeartbeats 1000000 in
/-- From zero upwards, and negative zero's kin: what is told of s's product r tells all. -/
theorem from_taken (s r : Nat) (w : World) (k1 : FloatKind.f64.format.order s s = some .eq) (k2 : FloatKind.f64.format.order s 0 = some .eq ∨ FloatKind.f64.format.order s 0 = some .gt)
    (hm : floatBits .mul .f64 s 4652007308841189376 = some r) (hr : r ≤ 9218868437227405312) :
    Calls Try.prog 28 #[.float .f64 s] w (RetFS w (if r < 4895412794951729152 then (ceI r : Int) else 18446744073709551615) 0) := by
  have N := Lib.hid (fun w => isNaN_any s false w (by rw [k1]; rfl))
  have k3 : (FloatKind.f64.format.order s 0 == some .lt) = false := by rcases k2 with h | h <;> rw [h] <;> rfl
  have km := fun w => run_float_arith (P := Try.prog) w .mul 47 .f64 s 4652007308841189376 r hm
  have ho : FloatKind.f64.format.order r 4895412794951729152 = some (compare r 4895412794951729152) := order_pos r _ hr (by omega)
  clear k1 k2 hm
  by_cases hlt : r < 4895412794951729152
  · rw [if_pos hlt]
    rw [Nat.compare_eq_lt.2 hlt] at ho
    obtain ⟨d, hd, hw, hf⟩ := ceil_word r (by omega)
    have kc := Lib.hid (fun w => ceil_any r d w (not_nan r (by omega)) hw)
    have hcv := to_int_of d (ceI r) hd hf (ce_u r hlt).1
    obtain ⟨n, hn⟩ : ∃ n, ceI r = n := ⟨_, rfl⟩
    rw [hn] at hcv ⊢
    have kv := fun w => run_convert_float_int (P := Try.prog) w 47 22 .f64 .u64 d (n : Int) (by kernel_rfl) Try.underlying22 hcv
    clear hw hf hcv hn hd hlt hr
    go_enter Try.func28, Try.ntmps28
    go_wp2_with (first | (go_at_call 31; refine (N.out _).mono ?_; rintro e w' ⟨rfl, rfl⟩) | (go_at_call 32; refine (kc.out _).mono ?_; rintro e w' ⟨rfl, rfl⟩))
    go_ret2
    exact ⟨rfl, rfl⟩
  · rw [if_neg hlt]
    have ho2 : (FloatKind.f64.format.order r 4895412794951729152 == some .gt || FloatKind.f64.format.order r 4895412794951729152 == some .eq) = true := by
      rw [ho]
      rcases Nat.lt_trichotomy r 4895412794951729152 with h | h | h
      · exact absurd h hlt
      · rw [Nat.compare_eq_eq.2 h]; rfl
      · rw [Nat.compare_eq_gt.2 h]; rfl
    clear ho hlt hr
    go_enter Try.func28, Try.ntmps28
    go_wp2_with (go_at_call 31; refine (N.out _).mono ?_; rintro e w' ⟨rfl, rfl⟩)
    go_ret2
    exact ⟨rfl, rfl⟩

set_option maxRecDepth 100000 in
set_option maxHeartbeats 1000000 in
theorem rfrom_taken (s r : Nat) (w : World) (k1 : FloatKind.f64.format.order s s = some .eq) (k2 : FloatKind.f64.format.order s 0 = some .eq ∨ FloatKind.f64.format.order s 0 = some .gt)
    (hm : floatBits .mul .f64 s 4652007308841189376 = some r) (hr : r ≤ 9218868437227405312) :
    Calls Try.prog 29 #[.float .f64 s] w (RetFS w (if r < 4895412794951729152 then (ceI r : Int) else 18446744073709551615) 0) := by
  have k3 : (FloatKind.f64.format.order s 0 == some .lt) = false := by rcases k2 with h | h <;> rw [h] <;> rfl
  have km := fun w => run_float_arith (P := Try.prog) w .mul 47 .f64 s 4652007308841189376 r hm
  have ho : FloatKind.f64.format.order r 4895412794951729152 = some (compare r 4895412794951729152) := order_pos r _ hr (by omega)
  clear k2 hm
  by_cases hlt : r < 4895412794951729152
  · rw [if_pos hlt]
    rw [Nat.compare_eq_lt.2 hlt] at ho
    have hcv := to_int r hlt
    have hfl := float_fl r (by omega)
    have htr := tr_le r
    have hto : FloatKind.f64.format.order (trI r) r = some (compare (trI r) r) := order_pos _ _ (by omega) hr
    have hce : ceI r = if trI r = r then flI r else flI r + 1 := rfl
    have hu := ce_u r hlt
    obtain ⟨n, hn⟩ : ∃ n, flI r = n := ⟨_, rfl⟩
    obtain ⟨t, ht⟩ : ∃ n, trI r = n := ⟨_, rfl⟩
    rw [hn] at hcv hfl hce hu
    rw [ht] at htr hto hfl hce hu
    have kv := fun w => run_convert_float_int (P := Try.prog) w 47 22 .f64 .u64 r (n : Int) (by kernel_rfl) Try.underlying22 hcv
    have kf := fun w => run_convert_int_float (P := Try.prog) w 22 47 .u64 .f64 (n : Int) (by kernel_rfl) Try.underlying47
    rw [hfl] at kf
    obtain ⟨c, hc⟩ : ∃ c, ceI r = c := ⟨_, rfl⟩
    rw [hc] at hce ⊢
    obtain ⟨_, hu1, hu2⟩ := hu
    clear hcv hfl hn ht hc hlt
    by_cases htr2 : t = r
    · rw [if_pos htr2] at hce
      rw [Nat.compare_eq_eq.2 htr2] at hto
      have HT := Lib.hid (And.intro htr2 hce)
      clear htr2 hce hu2 htr
      go_enter Try.func29, Try.ntmps29
      go_wp2
      go_ret2
      exact ⟨ret2 (by rw [HT.out.2]) rfl, rfl⟩
    · rw [if_neg htr2] at hce
      rw [Nat.compare_eq_lt.2 (by omega)] at hto
      have hu3 := hu2 htr2
      have HT := Lib.hid hce
      clear htr2 hce hu2 htr
      go_enter Try.func29, Try.ntmps29
      go_wp2
      go_ret2
      exact ⟨ret2 (by rw [HT.out]; omega) rfl, rfl⟩
  · rw [if_neg hlt]
    have ho2 : (FloatKind.f64.format.order r 4895412794951729152 == some .gt || FloatKind.f64.format.order r 4895412794951729152 == some .eq) = true := by
      rw [ho]
      rcases Nat.lt_trichotomy r 4895412794951729152 with h | h | h
      · exact absurd h hlt
      · rw [Nat.compare_eq_eq.2 h]; rfl
      · rw [Nat.compare_eq_gt.2 h]; rfl
    clear ho hlt hr
    go_enter Try.func29, Try.ntmps29
    go_wp2
    go_ret2
    exact ⟨rfl, rfl⟩
end Go.Proofs.Ytaekaonelmiokaa
