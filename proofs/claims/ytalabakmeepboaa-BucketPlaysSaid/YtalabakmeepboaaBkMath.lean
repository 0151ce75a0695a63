/-
  Mathematics of buckets: what there is at the tick that When answers, and a tick ahead of it.
-/
import Derived.Test.YtalabakmeepboaaBkPure
namespace Go.Proofs.Ytalabakmeepboaa

theorem per_full {e c r : Int} (he : 1 ≤ e) (hr : 0 ≤ r) : per e c (c + r * e) = r := by
  rcases Int.lt_or_eq_of_le hr with h | h
  · have := mul_ge hr he
    rw [per_pos (by omega), show c + r * e - c = r * e by omega, Int.mul_ediv_cancel _ (by omega)]
  · rw [← h, per_zero (by omega)]
theorem per_early {e c r : Int} (he : 1 ≤ e) (hr : 1 ≤ r) : per e c (c + r * e - 1) = r - 1 := by
  have h1 : r * e = (r - 1) * e + e := by rw [Int.sub_mul]; omega
  have h0 := mul_nn (p := r - 1) (m := e) (by omega) he
  by_cases hz : c + r * e - 1 ≤ c
  · have h2 := mul_ge (p := r - 1) (m := e) (by omega) he
    rw [per_zero hz]; omega
  · rw [per_pos (by omega), show c + r * e - 1 - c = (e - 1) + (r - 1) * e by omega, Int.add_mul_ediv_right _ _ (by omega), Int.ediv_eq_zero_of_lt (by omega) (by omega)]
    omega

theorem when_late {s : S} {T n : Int} (h : s.Ok) (hc : s.c ≤ T) (hT : 0 ≤ T) (hT1 : T ≤ 1099511627776) (hn : n ≤ s.b) (ht : (s.pass T).t < n) :
    ∃ A, whenN (s.pass T) T n = A ∧ T < A ∧ A ≤ 1152921504606846976 ∧ (s.pass (A - 1)).t < n ∧ n ≤ ((s.pass T).pass A).t := by
  have hu := h.pass (now := T) ⟨hT, by omega⟩
  have hat := S.pass_at h T
  have hlo := per_lo (e := s.e) (c := s.c) (now := T) h.e1 hc
  have hul : (s.pass T).c ≤ T := hlo
  have hpp : ∀ A, T ≤ A → (s.pass T).pass A = s.pass A := fun A hA => S.pass_pass h hc hA
  have hb : (s.pass T).b = s.b := rfl
  obtain ⟨u, eu⟩ : ∃ u, u = s.pass T := ⟨_, rfl⟩
  rw [← eu] at hu hat hul hpp hb ht ⊢
  unfold S.At at hat
  have hr0 : 1 ≤ cnt u.m u.t n := by
    unfold cnt
    rw [if_neg (by omega)]
    have := Int.ediv_nonneg (show 0 ≤ n - u.t - 1 by omega) (show 0 ≤ u.m by have := hu.m1; omega)
    omega
  have hr1 := cnt_up (m := u.m) (t := u.t) (n := n) hu.m1 (by have := hu.t1; have := hu.b1; omega)
  have hle := cnt_le (m := u.m) (t := u.t) (n := n) (p := cnt u.m u.t n) hu.m1 (by omega)
  have hlt := cnt_le (m := u.m) (t := u.t) (n := n) (p := cnt u.m u.t n - 1) hu.m1 (by omega)
  obtain ⟨r, er⟩ : ∃ r, r = cnt u.m u.t n := ⟨_, rfl⟩
  rw [← er] at hr0 hr1 hle hlt
  have m1 := mul_up (p := r) (m := u.e) (P := 4294967294) (M := 1048576) (by omega) (by have := hu.e1; omega) hr1 hu.e2
  have m2 := mul_ge (p := r) (m := u.e) (by omega) hu.e1
  have m3 : u.e ≤ r * u.e := by
    have := mul_ge (p := u.e) (m := r) (by have := hu.e1; omega) hr0
    rw [Int.mul_comm]; exact this
  refine ⟨u.c + r * u.e, ?_, by omega, by omega, ?_, ?_⟩
  · unfold whenN dlN
    rw [if_neg (by omega), if_neg (by omega), ← er, if_neg (by omega)]
  · rw [← hpp _ (by omega)]
    show min u.b (u.t + per u.e u.c (u.c + r * u.e - 1) * u.m) < n
    rw [per_early hu.e1 hr0]
    omega
  · show n ≤ min u.b (u.t + per u.e u.c (u.c + r * u.e) * u.m)
    rw [per_full hu.e1 (by omega)]
    omega
end Go.Proofs.Ytalabakmeepboaa
