/-
  The walk of TicksSeconds: it returns true for every input, and turns nothing.
-/
import Derived.Test.YtaekaonelmiokaaTkFrSecs
import Derived.BigGuardPart
namespace Go.Proofs.Ytaekaonelmiokaa
open Go.RowKit

theorem near_neg_zero : floatBits .mul .f64 9223372036854775808 4652007308841189376 = some 9223372036854775808 := by decide +kernel
theorem ceil_neg_zero : Ieee.double.write ((Ieee.double.read 9223372036854775808).integral .up) = 9223372036854775808 := by decide +kernel
theorem int_neg_zero : floatToIntVal .f64 9223372036854775808 .u64 = some 0 := by decide +kernel
theorem read_neg_zero : ∀ s t, Ieee.double.read 9223372036854775808 ≠ .nan s t := by
  have : Ieee.double.read 9223372036854775808 = .number true 0 (-1074) := by decide +kernel
  intro s t h
  rw [this] at h
  cases h

set_option maxRecDepth 100000 in
set_option maxHeartbeats 1000000 in
theorem from_nz_of (z : Nat) (w : World) (k1 : FloatKind.f64.format.order z z = some .eq) (k2 : FloatKind.f64.format.order z 0 = some .eq) (k3 : FloatKind.f64.format.order z 4895412794951729152 = some .lt) (k4 : FloatKind.f64.format.order 0 z = some .eq)
    (k6 : floatBits .mul .f64 z 4652007308841189376 = some z) (k7 : ∀ s t, Ieee.double.read z ≠ .nan s t) (k8 : Ieee.double.write ((Ieee.double.read z).integral .up) = z) (k9 : floatToIntVal .f64 z .u64 = some 0) :
    Calls Try.prog 28 #[.float .f64 z] w (RetFS w 0 0) ∧ Calls Try.prog 29 #[.float .f64 z] w (RetFS w 0 0) := by
  have k5 : floatOfInt .f64 0 = 0 := by decide +kernel
  have N := Lib.hid (fun w => isNaN_any z false w (by rw [k1]; rfl))
  have kc := Lib.hid (fun w => ceil_any z _ w k7 k8)
  have km := fun w => run_float_arith (P := Try.prog) w .mul 47 .f64 _ _ _ k6
  have kv := fun w => run_convert_float_int (P := Try.prog) w 47 22 .f64 .u64 _ _ (by kernel_rfl) Try.underlying22 k9
  have kf := fun w => run_convert_int_float (P := Try.prog) w 22 47 .u64 .f64 0 (by kernel_rfl) Try.underlying47
  rw [k5] at kf
  clear k5 k6 k7 k8 k9
  constructor
  · go_enter Try.func28, Try.ntmps28
    go_wp2_with (first | (go_at_call 31; refine (N.out _).mono ?_; rintro e w' ⟨rfl, rfl⟩) | (go_at_call 32; refine (kc.out _).mono ?_; rintro e w' ⟨rfl, rfl⟩))
    go_ret2
    exact ⟨rfl, rfl⟩
  · go_enter Try.func29, Try.ntmps29
    go_wp2
    go_ret2
    exact ⟨rfl, rfl⟩
theorem from_nz (w : World) : Calls Try.prog 28 #[.float .f64 9223372036854775808] w (RetFS w 0 0) ∧ Calls Try.prog 29 #[.float .f64 9223372036854775808] w (RetFS w 0 0) :=
  from_nz_of _ w (by decide +kernel) (by decide +kernel) (by decide +kernel) (by decide +kernel) near_neg_zero read_neg_zero ceil_neg_zero int_neg_zero

theorem fs_pos {s : Nat} (h : s ≤ 9218868437227405312) : fsN s = (if mulK s < 4895412794951729152 then (ceI (mulK s) : Int) else 18446744073709551615) ∧ fsE s = 0 := by
  have hp : posW s = true := decide_eq_true h
  unfold fsN fsE
  rw [if_pos hp]
  exact ⟨rfl, if_pos (Or.inl hp)⟩
theorem fs_neg {s : Nat} (h : ¬ s ≤ 9218868437227405312) : fsN s = 0 ∧ fsE s = if s = 9223372036854775808 then 0 else 2 := by
  have hp : posW s = false := decide_eq_false h
  unfold fsN fsE
  rw [hp]
  simp
/-- Both, at every word. -/
theorem fromSecs_any (s : Nat) (w : World) (hs : s < 18446744073709551616) : Calls Try.prog 28 #[.float .f64 s] w (RetFS w (fsN s) (fsE s)) ∧ Calls Try.prog 29 #[.float .f64 s] w (RetFS w (fsN s) (fsE s)) := by
  by_cases h : s ≤ 9218868437227405312
  · obtain ⟨e1, e2⟩ := fs_pos h
    rw [e1, e2]
    have k1 : FloatKind.f64.format.order s s = some .eq := order_self s h
    have k2 : FloatKind.f64.format.order s 0 = some .eq ∨ FloatKind.f64.format.order s 0 = some .gt := by
      have : FloatKind.f64.format.order s 0 = some (compare s 0) := order_pos s 0 h (by omega)
      rw [this]
      rcases Nat.eq_zero_or_pos s with rfl | h0
      · exact .inl rfl
      · exact .inr (by rw [Nat.compare_eq_gt.2 h0])
    exact ⟨from_taken s (mulK s) w k1 k2 (mul_1000 s h) (mulK_le s), rfrom_taken s (mulK s) w k1 k2 (mul_1000 s h) (mulK_le s)⟩
  · obtain ⟨e1, e2⟩ := fs_neg h
    rw [e1, e2]
    by_cases hz : s = 9223372036854775808
    · rw [if_pos hz, hz]
      exact from_nz w
    · rw [if_neg hz]
      by_cases hn : 9223372036854775808 ≤ s ∧ s ≤ 18442240474082181120
      · obtain ⟨u, rfl⟩ : ∃ u, s = 9223372036854775808 + u := ⟨s - 9223372036854775808, by omega⟩
        exact from_refused _ w (.inr ⟨order_neg_self u (by omega), order_neg_zero u (by omega) (by omega)⟩)
      · exact from_refused _ w (.inl (order_nan s s hs h hn))
theorem fsN_nonneg (s : Nat) : 0 ≤ fsN s := by unfold fsN; (repeat' split) <;> omega
theorem fsN_u (s : Nat) : U (fsN s) := by
  by_cases h : s ≤ 9218868437227405312
  · rw [(fs_pos h).1]
    split
    · rename_i hl
      have := (ce_u _ hl).1
      unfold U
      omega
    · unfold U; omega
  · rw [(fs_neg h).1]; unfold U; omega
theorem fsE_two (s : Nat) : fsE s = 0 ∨ fsE s = 2 := by unfold fsE; split <;> simp
/-- More seconds are no fewer ticks. -/
theorem fs_mono {s t : Nat} (hs : s < 18446744073709551616) (ht : t < 18446744073709551616) (es : fsE s = 0) (et : fsE t = 0) (h : Ieee.double.order s t = some .lt ∨ Ieee.double.order s t = some .eq) : fsN s ≤ fsN t := by
  by_cases h1 : s ≤ 9218868437227405312
  · by_cases h2 : t ≤ 9218868437227405312
    · rw [order_pos s t h1 h2] at h
      have hle : s ≤ t := by
        rcases h with h | h
        · have := Nat.compare_eq_lt.1 (Option.some.inj h); omega
        · have := Nat.compare_eq_eq.1 (Option.some.inj h); omega
      have hm := mulK_mono hle h2
      rw [(fs_pos h1).1, (fs_pos h2).1]
      by_cases h3 : mulK t < 4895412794951729152
      · rw [if_pos (by omega), if_pos h3]
        have := ce_mono hm
        omega
      · rw [if_neg h3]
        have := (fsN_u s).2
        rw [(fs_pos h1).1] at this
        exact this
    · have hz : t = 9223372036854775808 := by
        have := (fs_neg h2).2
        rw [et] at this
        by_cases hz : t = 9223372036854775808
        · exact hz
        · rw [if_neg hz] at this; omega
      subst hz
      have hs0 : s = 0 := by
        by_cases h0 : s = 0
        · exact h0
        · exfalso
          have e : Ieee.double.order s 9223372036854775808 = Ieee.double.order s 0 := by
            have a : Ieee.double.read 9223372036854775808 = .number true 0 (-1074) := by decide +kernel
            have b : Ieee.double.read 0 = .number false 0 (-1074) := by decide +kernel
            unfold Ieee.Format.order
            rw [a, b]
            cases Ieee.double.read s with
            | nan _ _ => rfl
            | infinity _ => rfl
            | number u m p =>
              unfold Ieee.Datum.order
              dsimp only
              have : ∀ k, Ieee.signed true 0 k = Ieee.signed false 0 k := fun k => by unfold Ieee.signed; simp
              rw [this]
          rw [e, order_pos s 0 h1 (by omega), Nat.compare_eq_gt.2 (by omega)] at h
          rcases h with h | h <;> cases h
      subst hs0
      have e0 : fsN 0 = 0 := by
        have hc : ceI 0 = 0 := by
          have hv : val 0 = 0 := by decide
          have : trI 0 = 0 := (tr_eq 0).2 (by rw [hv, Nat.zero_mod])
          unfold ceI flI
          rw [if_pos this, hv, Nat.zero_div]
        rw [(fs_pos h1).1, show mulK 0 = 0 from rfl, hc]
        rfl
      rw [e0]
      exact fsN_nonneg _
  · rw [(fs_neg h1).1]
    exact fsN_nonneg _

theorem secs_some (x : Int) (h : U x) : ∃ r, secsN x = some r ∧ FloatKind.f64.format.order r r = some .eq := by
  unfold secsN
  by_cases hn : x = 18446744073709551615
  · rw [if_pos hn]
    exact ⟨_, rfl, order_self _ (by omega)⟩
  · rw [if_neg hn]
    have hy : floatOfInt .f64 x ≤ 9218868437227405312 := by
      show Ieee.double.write (.number (decide (x < 0)) x.natAbs 0) ≤ _
      rw [show decide (x < 0) = false from by have := h.1; simp; omega]
      exact near_le _ _
    obtain ⟨r, hr, hle⟩ := div_1000 _ hy
    exact ⟨r, hr, order_self r hle⟩

set_option maxRecDepth 100000 in
set_option maxHeartbeats 4000000 in
theorem secs_any (x : Int) (s t : Nat) (w : World) (hx : U x) (hs : s < 18446744073709551616) (ht : t < 18446744073709551616) :
    Calls Try.prog 8 #[.int .u64 x, .float .f64 s, .float .f64 t] w fun e w' => e = .returned (.bool true) ∧ w = w' := by
  have A := Lib.hid (alive_any w)
  obtain ⟨r, hr, ho⟩ := secs_some x hx
  have S1 := Lib.hid (seconds_any x r w hx hr)
  have S2 := Lib.hid (rseconds_any x r w hx hr)
  have F1 := fromSecs_any s w hs
  have F2 := fromSecs_any t w ht
  have hm := fun a b c => fs_mono hs ht a b c
  have e1 := fsE_two s
  have e2 := fsE_two t
  obtain ⟨n, hn⟩ : ∃ n, fsN s = n := ⟨_, rfl⟩
  obtain ⟨k, hk⟩ : ∃ n, fsN t = n := ⟨_, rfl⟩
  obtain ⟨e, he⟩ : ∃ n, fsE s = n := ⟨_, rfl⟩
  obtain ⟨g, hg⟩ : ∃ n, fsE t = n := ⟨_, rfl⟩
  rw [hn, he] at F1
  rw [hk, hg] at F2
  rw [hn, hk, he, hg] at hm
  rw [he] at e1
  rw [hg] at e2
  have HF := Lib.hid (And.intro F1 F2)
  clear F1 F2 hn hk he hg hr
  obtain ⟨o, hoo⟩ : ∃ o, FloatKind.f64.format.order s t = o := ⟨_, rfl⟩
  have hm' : e = 0 → g = 0 → (o == some .lt || o == some .eq) = true → n ≤ k := fun a b c => hm a b (by
    have : Ieee.double.order s t = o := hoo
    rw [this]
    simpa using c)
  clear hm hx hs ht
  obtain ⟨l, hl⟩ : ∃ l, (o == some .lt || o == some .eq) = l := ⟨_, rfl⟩
  rw [hl] at hm'
  have HM := Lib.hid hm'
  clear hm'
  rcases e1 with rfl | rfl
  · rcases e2 with rfl | rfl
    · cases l with
      | true =>
        have hnk := HM.out rfl rfl rfl
        clear HM
        go_enter Try.func8, Try.ntmps8
        go_wp2_with fail
        refine A.out.mono ?_; rintro e w' ⟨rfl, rfl⟩
        go_wp2_with fail
        refine S1.out.mono ?_; rintro e w' ⟨rfl, rfl⟩
        go_wp2_with fail
        refine S2.out.mono ?_; rintro e w' ⟨rfl, rfl⟩
        go_wp2_with fail
        refine HF.out.1.1.mono ?_; rintro e w' ⟨rfl, rfl⟩
        go_wp2_with fail
        refine HF.out.1.2.mono ?_; rintro e w' ⟨rfl, rfl⟩
        go_wp2_with fail
        refine HF.out.2.1.mono ?_; rintro e w' ⟨rfl, rfl⟩
        go_wp2_with fail
        go_ret
        exact ⟨rfl, rfl⟩
      | false =>
        clear HM
        go_enter Try.func8, Try.ntmps8
        go_wp2_with fail
        refine A.out.mono ?_; rintro e w' ⟨rfl, rfl⟩
        go_wp2_with fail
        refine S1.out.mono ?_; rintro e w' ⟨rfl, rfl⟩
        go_wp2_with fail
        refine S2.out.mono ?_; rintro e w' ⟨rfl, rfl⟩
        go_wp2_with fail
        refine HF.out.1.1.mono ?_; rintro e w' ⟨rfl, rfl⟩
        go_wp2_with fail
        refine HF.out.1.2.mono ?_; rintro e w' ⟨rfl, rfl⟩
        go_wp2_with fail
        refine HF.out.2.1.mono ?_; rintro e w' ⟨rfl, rfl⟩
        go_wp2_with fail
        go_ret
        exact ⟨rfl, rfl⟩
    · clear HM
      go_enter Try.func8, Try.ntmps8
      go_wp2_with fail
      refine A.out.mono ?_; rintro e w' ⟨rfl, rfl⟩
      go_wp2_with fail
      refine S1.out.mono ?_; rintro e w' ⟨rfl, rfl⟩
      go_wp2_with fail
      refine S2.out.mono ?_; rintro e w' ⟨rfl, rfl⟩
      go_wp2_with fail
      refine HF.out.1.1.mono ?_; rintro e w' ⟨rfl, rfl⟩
      go_wp2_with fail
      refine HF.out.1.2.mono ?_; rintro e w' ⟨rfl, rfl⟩
      go_wp2_with fail
      refine HF.out.2.1.mono ?_; rintro e w' ⟨rfl, rfl⟩
      go_wp2_with fail
      go_ret
      exact ⟨rfl, rfl⟩
  · clear HM
    go_enter Try.func8, Try.ntmps8
    go_wp2_with fail
    refine A.out.mono ?_; rintro e w' ⟨rfl, rfl⟩
    go_wp2_with fail
    refine S1.out.mono ?_; rintro e w' ⟨rfl, rfl⟩
    go_wp2_with fail
    refine S2.out.mono ?_; rintro e w' ⟨rfl, rfl⟩
    go_wp2_with fail
    refine HF.out.1.1.mono ?_; rintro e w' ⟨rfl, rfl⟩
    go_wp2_with fail
    refine HF.out.1.2.mono ?_; rintro e w' ⟨rfl, rfl⟩
    go_wp2_with fail
    refine HF.out.2.1.mono ?_; rintro e w' ⟨rfl, rfl⟩
    go_wp2_with fail
    go_ret
    exact ⟨rfl, rfl⟩
end Go.Proofs.Ytaekaonelmiokaa
