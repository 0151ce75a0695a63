/-
  Buckets as numbers: rates, what passing a tick does, and what each call answers.
-/
import Derived.Lib.Hide
namespace Go.Proofs.Ytalabakmeepboaa

def U (n : Int) : Prop := 0 ≤ n ∧ n ≤ 18446744073709551615
def I (n : Int) : Prop := -9223372036854775808 ≤ n ∧ n ≤ 9223372036854775807

/-- May a rate be? -/
def rateB (m e b : Int) : Bool := decide (1 ≤ m ∧ m ≤ b ∧ b ≤ 2147483647 ∧ 1 ≤ e ∧ e ≤ 1048576)
theorem rateB_yes {m e b : Int} : rateB m e b = true ↔ 1 ≤ m ∧ m ≤ b ∧ b ≤ 2147483647 ∧ 1 ≤ e ∧ e ≤ 1048576 := by unfold rateB; exact decide_eq_true_iff
theorem rateB_no {m e b : Int} : rateB m e b = false ↔ m < 1 ∨ b < m ∨ 2147483647 < b ∨ e < 1 ∨ 1048576 < e := by
  unfold rateB; rw [decide_eq_false_iff_not]; omega
def rateN (m e b : Int) : Int := if rateB m e b then 0 else 80

/-- A bucket: Many, Every, Burst, tokens, clock. -/
structure S where
  m : Int
  e : Int
  b : Int
  t : Int
  c : Int
structure S.Ok (s : S) : Prop where
  m1 : 1 ≤ s.m
  mb : s.m ≤ s.b
  b1 : s.b ≤ 2147483647
  e1 : 1 ≤ s.e
  e2 : s.e ≤ 1048576
  t1 : -2147483647 ≤ s.t
  tb : s.t ≤ s.b
  c0 : 0 ≤ s.c
  c1 : s.c ≤ 18446744073709551615
theorem S.Ok.rate {s : S} (h : s.Ok) : rateB s.m s.e s.b = true := rateB_yes.2 ⟨h.m1, h.mb, h.b1, h.e1, h.e2⟩

/-- How many periods have ended. -/
def per (e c now : Int) : Int := if now ≤ c then 0 else (now - c) / e
def S.pass (s : S) (now : Int) : S := { s with t := min s.b (s.t + per s.e s.c now * s.m), c := s.c + per s.e s.c now * s.e }
def cnt (m t n : Int) : Int := if n ≤ t then 0 else (n - t - 1) / m + 1
def takeN (s : S) (n : Int) : Int := if min n s.t < 1 then 0 else min n s.t
def S.less (s : S) (n : Int) : S := { s with t := s.t - n }
def borB (s : S) (n : Int) : Bool := decide (0 ≤ n ∧ n ≤ 2147483647 ∧ -2147483647 ≤ s.t - n)
def borN (s : S) (n : Int) : Int := if borB s n then 0 else 2
def borS (s : S) (n : Int) : S := if borB s n then s.less n else s
def dlN (now after : Int) : Int := if 18446744073709551615 - now < after then 18446744073709551615 else now + after
def whenN (s : S) (now n : Int) : Int := if s.b < n then 18446744073709551615 else if n ≤ s.t then now else dlN s.c (cnt s.m s.t n * s.e)
def S.set (s : S) (m e b : Int) : S := ⟨m, e, b, min s.t b, s.c⟩

theorem mul_ge {p m : Int} (hp : 0 ≤ p) (hm : 1 ≤ m) : p ≤ p * m := by
  have := Int.mul_le_mul_of_nonneg_left hm hp
  simpa using this
theorem mul_nn {p m : Int} (hp : 0 ≤ p) (hm : 1 ≤ m) : 0 ≤ p * m := Int.mul_nonneg hp (by omega)
theorem mul_up {p m P M : Int} (hp : 0 ≤ p) (hm : 0 ≤ m) (h : p ≤ P) (k : m ≤ M) : p * m ≤ P * M :=
  Int.le_trans (Int.mul_le_mul_of_nonneg_right h hm) (Int.mul_le_mul_of_nonneg_left k (by omega))

theorem per_zero {e c now : Int} (h : now ≤ c) : per e c now = 0 := if_pos h
theorem per_pos {e c now : Int} (h : c < now) : per e c now = (now - c) / e := if_neg (by omega)
theorem per_nn {e c now : Int} (he : 1 ≤ e) : 0 ≤ per e c now := by
  unfold per
  split
  · omega
  · exact Int.ediv_nonneg (by omega) (by omega)
theorem div_lo {x e : Int} (he : 1 ≤ e) : x / e * e ≤ x := Int.ediv_mul_le x (by omega)
theorem div_hi {x e : Int} (he : 1 ≤ e) : x < x / e * e + e := by
  have h1 := Int.emod_add_mul_ediv x e
  have h2 := Int.emod_lt_of_pos x (show (0 : Int) < e by omega)
  rw [Int.mul_comm] at h1
  omega
/-- The clock goes on, never beyond now. -/
theorem per_lo {e c now : Int} (he : 1 ≤ e) (h : c ≤ now) : c + per e c now * e ≤ now := by
  rcases Int.lt_or_eq_of_le h with h | h
  · rw [per_pos h]; have := div_lo (x := now - c) he; omega
  · rw [per_zero (by omega)]; omega
theorem per_hi {e c now : Int} (he : 1 ≤ e) : now < c + per e c now * e + e := by
  unfold per
  split
  · omega
  · have := div_hi (x := now - c) he; omega

theorem cnt_nn {m t n : Int} (hm : 1 ≤ m) : 0 ≤ cnt m t n := by
  unfold cnt
  split
  · omega
  · have := Int.ediv_nonneg (show 0 ≤ n - t - 1 by omega) (show 0 ≤ m by omega)
    omega
theorem cnt_le {m t n p : Int} (hm : 1 ≤ m) (hp : 0 ≤ p) : cnt m t n ≤ p ↔ n ≤ t + p * m := by
  unfold cnt
  split
  · have := mul_nn hp hm
    omega
  · have h := @Int.ediv_lt_iff_lt_mul (n - t - 1) p m (by omega)
    omega
theorem cnt_up {m t n : Int} (hm : 1 ≤ m) (h : n - t ≤ 4294967294) : cnt m t n ≤ 4294967294 := by
  unfold cnt
  split
  · omega
  · have h1 := @Int.ediv_lt_iff_lt_mul (n - t - 1) 4294967294 m (by omega)
    have h2 := mul_ge (p := 4294967294) (m := m) (by omega) hm
    omega
/-- As the document counts: whole times, and one more where something is left. -/
theorem cnt_doc {m t n : Int} (hm : 1 ≤ m) (h : t < n) : cnt m t n = if (n - t) % m = 0 then (n - t) / m else (n - t) / m + 1 := by
  unfold cnt
  rw [if_neg (by omega)]
  have h1 := Int.emod_add_mul_ediv (n - t) m
  have h2 := Int.emod_lt_of_pos (n - t) (show (0 : Int) < m by omega)
  have h3 := Int.emod_nonneg (n - t) (show m ≠ 0 by omega)
  have e : n - t - 1 = ((n - t) % m - 1) + (n - t) / m * m := by rw [Int.mul_comm]; omega
  rw [e, Int.add_mul_ediv_right _ _ (by omega)]
  split
  · rename_i h0
    rw [h0, Int.ediv_eq_neg_one_of_neg_of_le (by omega) (by omega)]; omega
  · rw [Int.ediv_eq_zero_of_lt (by omega) (by omega)]; omega

section
variable {s : S} {now n : Int}
theorem S.pass_m : (s.pass now).m = s.m := rfl
theorem S.pass_e : (s.pass now).e = s.e := rfl
theorem S.pass_b : (s.pass now).b = s.b := rfl
theorem S.Ok.pass (h : s.Ok) (hn : U now) : (s.pass now).Ok := by
  have hp := per_nn (e := s.e) (c := s.c) (now := now) h.e1
  have h1 := mul_nn hp h.m1
  have h2 := mul_nn hp h.e1
  obtain ⟨m1, mb, b1, e1, e2, t1, tb, c0, c1⟩ := h
  obtain ⟨n0, n1⟩ := hn
  refine ⟨m1, mb, b1, e1, e2, ?_, ?_, ?_, ?_⟩
  · show -2147483647 ≤ min s.b (s.t + per s.e s.c now * s.m); omega
  · show min s.b (s.t + per s.e s.c now * s.m) ≤ s.b; omega
  · show 0 ≤ s.c + per s.e s.c now * s.e; omega
  · show s.c + per s.e s.c now * s.e ≤ _
    by_cases hc : now ≤ s.c
    · rw [per_zero hc]; omega
    · have := per_lo (e := s.e) (c := s.c) (now := now) e1 (by omega); omega
theorem S.pass_none (h : s.Ok) (hn : now ≤ s.c) : s.pass now = s := by
  unfold S.pass
  rw [per_zero hn]
  have := h.tb
  obtain ⟨m, e, b, t, c⟩ := s
  simp at *
  omega
theorem per_add {e c n1 n2 : Int} (he : 1 ≤ e) (h : c ≤ n1) (h2 : n1 ≤ n2) : per e c n1 + per e (c + per e c n1 * e) n2 = per e c n2 := by
  have hlo := per_lo he h
  have hp := per_nn (c := c) (now := n1) he
  generalize per e c n1 = p at *
  by_cases hc : n2 ≤ c + p * e
  · have e1 : n2 = n1 := by omega
    have e2 : n1 = c + p * e := by omega
    rw [per_zero hc]
    by_cases h0 : n2 ≤ c
    · have : p * e ≤ 0 := by omega
      have := mul_ge hp he
      rw [per_zero h0]; omega
    · rw [per_pos (by omega)]
      have : n2 - c = p * e := by omega
      rw [this, Int.mul_ediv_cancel _ (by omega)]; omega
  · have hm := mul_nn hp he
    rw [per_pos (by omega), per_pos (by omega)]
    have : n2 - c = (n2 - (c + p * e)) + p * e := by omega
    rw [this, Int.add_mul_ediv_right _ _ (by omega)]; omega
theorem S.pass_pass (h : s.Ok) {n1 n2 : Int} (h1 : s.c ≤ n1) (h2 : n1 ≤ n2) : (s.pass n1).pass n2 = s.pass n2 := by
  have ha := per_add (e := s.e) h.e1 h1 h2
  have hp := per_nn (e := s.e) (c := s.c) (now := n1) h.e1
  have hq := per_nn (e := s.e) (c := s.c + per s.e s.c n1 * s.e) (now := n2) h.e1
  have hx := mul_nn hp h.m1
  have hy := mul_nn hq h.m1
  unfold S.pass
  simp only
  generalize per s.e s.c n1 = p at *
  generalize per s.e (s.c + p * s.e) n2 = q at *
  rw [← ha, Int.add_mul, Int.add_mul]
  congr 1 <;> omega
theorem S.pass_same (h : s.Ok) : (s.pass now).pass now = s.pass now := by
  by_cases hc : now ≤ s.c
  · rw [S.pass_none h hc, S.pass_none h hc]
  · exact S.pass_pass h (by omega) (Int.le_refl _)
theorem takeN_nn (s : S) (n : Int) : 0 ≤ takeN s n := by unfold takeN; split <;> omega
theorem takeN_le (s : S) (n : Int) : takeN s n ≤ max 0 s.t ∧ takeN s n ≤ max 0 n := by unfold takeN; split <;> omega
theorem S.Ok.less (h : s.Ok) (h0 : 0 ≤ n) (h1 : -2147483647 ≤ s.t - n) : (s.less n).Ok := by
  obtain ⟨m1, mb, b1, e1, e2, t1, tb, c0, c1⟩ := h
  exact ⟨m1, mb, b1, e1, e2, h1, by show s.t - n ≤ s.b; omega, c0, c1⟩
theorem S.Ok.take (h : s.Ok) : (s.less (takeN s n)).Ok := by
  refine h.less (takeN_nn s n) ?_
  have := (takeN_le s n).1
  have := h.t1
  have := takeN_nn s n
  omega
theorem borB_yes : borB s n = true ↔ 0 ≤ n ∧ n ≤ 2147483647 ∧ -2147483647 ≤ s.t - n := by unfold borB; exact decide_eq_true_iff
theorem S.Ok.bor (h : s.Ok) : (borS s n).Ok := by
  unfold borS
  split
  · rename_i hb
    obtain ⟨h0, _, h1⟩ := borB_yes.1 hb
    exact h.less h0 h1
  · exact h
theorem S.Ok.set (h : s.Ok) {m e b : Int} (hr : rateB m e b = true) : (s.set m e b).Ok := by
  obtain ⟨r1, r2, r3, r4, r5⟩ := rateB_yes.1 hr
  obtain ⟨m1, mb, b1, e1, e2, t1, tb, c0, c1⟩ := h
  exact ⟨r1, r2, r3, r4, r5, by show -2147483647 ≤ min s.t b; omega, by show min s.t b ≤ b; omega, c0, c1⟩
def S.fresh (m e b now : Int) : S := ⟨m, e, b, b, now⟩
theorem S.Ok.fresh {m e b : Int} (hr : rateB m e b = true) (hn : U now) : (S.fresh m e b now).Ok := by
  obtain ⟨r1, r2, r3, r4, r5⟩ := rateB_yes.1 hr
  exact ⟨r1, r2, r3, r4, r5, by show -2147483647 ≤ b; omega, Int.le_refl _, hn.1, hn.2⟩
end

/-- The clock's period has not ended at t. -/
def S.At (s : S) (t : Int) : Prop := t < s.c + s.e
theorem S.pass_at {s : S} (h : s.Ok) (t : Int) : (s.pass t).At t := per_hi (c := s.c) (now := t) h.e1
theorem S.pass_stay {s : S} {t : Int} (h : s.Ok) (ha : s.At t) : s.pass t = s := by
  by_cases hc : t ≤ s.c
  · exact S.pass_none h hc
  · have hp : per s.e s.c t = 0 := by
      rw [per_pos (by omega)]
      unfold S.At at ha
      exact Int.ediv_eq_zero_of_lt (by omega) (by omega)
    unfold S.pass
    rw [hp]
    have := h.tb
    obtain ⟨m, e, b, t, c⟩ := s
    simp at *
    omega
theorem takeN_pos {s : S} {n : Int} (h : 0 ≤ n) (ht : 0 ≤ s.t) : takeN s n = min n s.t := by unfold takeN; split <;> omega
theorem takeN_neg {s : S} {n : Int} (h : n < 1) : takeN s n = 0 := by unfold takeN; rw [if_pos (by omega)]
theorem S.less_zero (s : S) : s.less 0 = s := by unfold S.less; simp
theorem S.less_less (s : S) (a b : Int) : (s.less a).less b = s.less (a + b) := by
  unfold S.less
  simp
  omega
theorem S.fresh_pass {m e b now t : Int} (h : rateB m e b = true) : ((S.fresh m e b now).pass t).t = b := by
  obtain ⟨r1, r2, r3, r4, r5⟩ := rateB_yes.1 h
  have := mul_nn (per_nn (e := e) (c := now) (now := t) r4) r1
  show min b (b + per e now t * m) = b
  omega

/-- What tokens become where now is beyond the clock, by whole periods. -/
theorem pass_full {m b t p : Int} (hm : 1 ≤ m) (hp : 0 ≤ p) (h : cnt m t b ≤ p) : min b (t + p * m) = b := by
  have := (cnt_le (t := t) (n := b) hm hp).1 h
  omega
theorem pass_part {m b t p : Int} (hm : 1 ≤ m) (hp : 0 ≤ p) (h : p < cnt m t b) : min b (t + p * m) = t + p * m := by
  have := (not_congr (cnt_le (t := t) (n := b) hm hp)).1 (by omega)
  omega
/-- As the document steps: as many periods as tokens are missing are enough. -/
theorem pass_lack {m b t p : Int} (hm : 1 ≤ m) (hp : 0 ≤ p) (h : b - t ≤ p) : min b (t + p * m) = b := by
  have := mul_ge hp hm
  omega
end Go.Proofs.Ytalabakmeepboaa
