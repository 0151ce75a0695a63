/-
  WHAT IS OF NO PROGRAM: float64 from 0 upwards: each finite one counts so many least units; the order of their words is theirs; rounding never turns an order round; what a float has, is written as it is.
-/
import Derived.Laws.FloatArith
namespace Go.Proofs.Ytaekaonelmiokaa
open Ieee

/-! ### 1. Rounding a quotient to the nearest whole number, between two to the even one -/
def rhe (n g : Nat) : Nat := n / g + (decide (g < 2 * (n % g)) || (g == 2 * (n % g) && n / g % 2 == 1)).toNat
theorem rhe_ge (n g : Nat) : n / g ≤ rhe n g := Nat.le_add_right _ _
theorem rhe_le (n g : Nat) : rhe n g ≤ n / g + 1 := by
  unfold rhe
  have : ∀ b : Bool, b.toNat ≤ 1 := by decide
  exact Nat.add_le_add_left (this _) _
theorem rhe_mono {n n' g : Nat} (hg : 0 < g) (h : n ≤ n') : rhe n g ≤ rhe n' g := by
  have hq : n / g ≤ n' / g := Nat.div_le_div_right h
  rcases Nat.lt_or_eq_of_le hq with hlt | heq
  · exact Nat.le_trans (rhe_le n g) (Nat.le_trans hlt (rhe_ge n' g))
  · have h1 := Nat.div_add_mod n g
    have h2 := Nat.div_add_mod n' g
    rw [heq] at h1
    have hr : n % g ≤ n' % g := by omega
    unfold rhe
    rw [heq]
    apply Nat.add_le_add_left
    cases hc : (decide (g < 2 * (n % g)) || (g == 2 * (n % g) && n' / g % 2 == 1)) with
    | false => exact Nat.zero_le _
    | true =>
      have hc' : (decide (g < 2 * (n' % g)) || (g == 2 * (n' % g) && n' / g % 2 == 1)) = true := by
        simp only [Bool.or_eq_true, decide_eq_true_eq, Bool.and_eq_true, beq_iff_eq] at hc ⊢
        omega
      rw [hc']
      exact Nat.le_refl _
theorem rhe_exact (k g : Nat) (hg : 0 < g) : rhe (k * g) g = k := by
  unfold rhe
  rw [Nat.mul_div_cancel _ hg, Nat.mul_mod_left]
  have h1 : decide (g < 2 * 0) = false := by simp
  have h2 : (g == 2 * 0) = false := by simp; omega
  rw [h1, h2]
  rfl
theorem rhe_top {n k g : Nat} (hg : 0 < g) (h : n ≤ k * g) : rhe n g ≤ k := by
  have := rhe_mono hg h
  rwa [rhe_exact k g hg] at this
theorem rhe_low {n k g : Nat} (hg : 0 < g) (h : k * g ≤ n) : k ≤ rhe n g := by
  have := rhe_mono hg h
  rwa [rhe_exact k g hg] at this
theorem rhe_scale (n g c : Nat) (hc : 0 < c) : rhe (n * c) (g * c) = rhe n g := by
  unfold rhe
  rw [Nat.mul_div_mul_right _ _ hc, Nat.mul_mod_mul_right]
  have e1 : decide (g * c < 2 * (n % g * c)) = decide (g < 2 * (n % g)) := by
    rw [decide_eq_decide, ← Nat.mul_assoc]
    exact ⟨fun h => Nat.lt_of_mul_lt_mul_right h, fun h => Nat.mul_lt_mul_of_pos_right h hc⟩
  have e2 : (g * c == 2 * (n % g * c)) = (g == 2 * (n % g)) := by
    rw [Bool.eq_iff_iff, beq_iff_eq, beq_iff_eq, ← Nat.mul_assoc]
    exact ⟨fun h => Nat.eq_of_mul_eq_mul_right hc h, fun h => congrArg (· * c) h⟩
  rw [e1, e2]

theorem cut_even (s : Bool) (n d : Nat) : Toward.even.cut s n d = rhe n (2 ^ d) := by
  unfold Toward.cut
  dsimp only
  rw [Nat.one_shiftLeft]
  by_cases h : d ≤ n.log2 + 2
  · rw [Nat.min_eq_left h]; rfl
  · rw [Nat.min_eq_right (by omega)]
    have h1 : n < 2 ^ (n.log2 + 1) := Nat.lt_log2_self
    have h2 : 2 ^ (n.log2 + 2) = 2 * 2 ^ (n.log2 + 1) := by rw [Nat.pow_succ, Nat.mul_comm]
    have h3 : 2 ^ (n.log2 + 2) ≤ 2 ^ d := Nat.pow_le_pow_right (by omega) (by omega)
    have z : ∀ g, n < g → 2 * n < g → n / g + (decide (g < 2 * (n % g)) || (g == 2 * (n % g) && n / g % 2 == 1)).toNat = 0 := by
      intro g a b
      rw [Nat.div_eq_of_lt a, Nat.mod_eq_of_lt a]
      have e1 : decide (g < 2 * n) = false := by simp; omega
      have e2 : (g == 2 * n) = false := by simp; omega
      rw [e1, e2]
      rfl
    rw [z _ (by omega) (by omega)]
    exact (z _ (by omega) (by omega)).symm
theorem cut_zero (s : Bool) (n d : Nat) : Toward.zero.cut s n d = n / 2 ^ d := by
  unfold Toward.cut
  dsimp only
  rw [Nat.one_shiftLeft]
  by_cases h : d ≤ n.log2 + 2
  · rw [Nat.min_eq_left h]; rfl
  · rw [Nat.min_eq_right (by omega)]
    have h1 : n < 2 ^ (n.log2 + 1) := Nat.lt_log2_self
    have h2 : 2 ^ (n.log2 + 2) = 2 * 2 ^ (n.log2 + 1) := by rw [Nat.pow_succ, Nat.mul_comm]
    have h3 : 2 ^ (n.log2 + 2) ≤ 2 ^ d := Nat.pow_le_pow_right (by omega) (by omega)
    rw [Nat.div_eq_of_lt (show n < 2 ^ (n.log2 + 2) by omega), Nat.div_eq_of_lt (show n < 2 ^ d by omega)]
    rfl

/-! ### 2. The rung of so many units of 2^-(1074 + s) -/
def rg (s n : Nat) : Nat := (max (n.log2 - 52) s - s) * 4503599627370496 + rhe n (2 ^ max (n.log2 - 52) s)
theorem rg_mono {s n n' : Nat} (h0 : 0 < n) (h : n ≤ n') : rg s n ≤ rg s n' := by
  have hl : n.log2 ≤ n'.log2 := (Nat.le_log2 (by omega)).2 (Nat.le_trans (Nat.log2_self_le (by omega)) h)
  obtain ⟨d, hd⟩ : ∃ d, max (n.log2 - 52) s = d := ⟨_, rfl⟩
  obtain ⟨d', hd'⟩ : ∃ d, max (n'.log2 - 52) s = d := ⟨_, rfl⟩
  unfold rg
  rw [hd, hd']
  have hdd : d ≤ d' := by omega
  rcases Nat.lt_or_eq_of_le hdd with hlt | rfl
  · have a : n < 2 ^ (n.log2 + 1) := Nat.lt_log2_self
    have b : 2 ^ (n.log2 + 1) ≤ 9007199254740992 * 2 ^ d := by
      rw [show (9007199254740992 : Nat) = 2 ^ 53 from by decide, ← Nat.pow_add]
      exact Nat.pow_le_pow_right (by omega) (by omega)
    have c : 4503599627370496 * 2 ^ d' ≤ n' := by
      rw [show (4503599627370496 : Nat) = 2 ^ 52 from by decide, ← Nat.pow_add]
      exact Nat.le_trans (Nat.pow_le_pow_right (by omega) (by omega)) (Nat.log2_self_le (by omega))
    have e1 := rhe_top (n := n) (k := 9007199254740992) (Nat.two_pow_pos d) (by omega)
    have e2 := rhe_low (n := n') (k := 4503599627370496) (Nat.two_pow_pos d') c
    omega
  · have := rhe_mono (Nat.two_pow_pos d) h
    omega

theorem word_pos (r : Nat) : double.word false r = r := by unfold Format.word; rw [if_neg (by simp)]
theorem least_place : double.leastPlace = -1074 := by decide +kernel
theorem inf_rung : double.infRung = 9218868437227405312 := by decide +kernel
theorem bin_ade : double.binade = 4503599627370496 := by decide +kernel
theorem sign_weight : double.signWeight = 9223372036854775808 := by decide +kernel
theorem frac_bits : double.fractionBits = 52 := rfl
theorem nearest_zero (s : Bool) (p : Int) : double.nearest s 0 p = double.word s 0 := by unfold Format.nearest; rw [if_pos rfl]
theorem nearest_rg (s n : Nat) (h0 : 0 < n) : double.nearest false n (-((1074 + s : Nat) : Int)) = min (rg s n) 9218868437227405312 := by
  unfold Format.nearest
  rw [if_neg (by omega), least_place, inf_rung, bin_ade]
  dsimp only
  rw [frac_bits, word_pos]
  have e1 : max (-((1074 + s : Nat) : Int) + (n.log2 : Int) - (52 : Nat)) (-1074) = ((max (n.log2 - 52) s : Nat) : Int) - ((1074 + s : Nat) : Int) := by omega
  rw [e1]
  obtain ⟨d, hd⟩ : ∃ d, max (n.log2 - 52) s = d := ⟨_, rfl⟩
  have hds : s ≤ d := by omega
  unfold rg
  rw [hd, cut_even, show (-((1074 + s : Nat) : Int) - ((d : Int) - ((1074 + s : Nat) : Int))).toNat = 0 from by omega, show ((d : Int) - ((1074 + s : Nat) : Int) - -((1074 + s : Nat) : Int)).toNat = d from by omega, Nat.shiftLeft_zero,
    show ((d : Int) - ((1074 + s : Nat) : Int) - -1074).toNat = d - s from by omega]

theorem log2_shift (n k : Nat) (h0 : 0 < n) : (n * 2 ^ k).log2 = n.log2 + k := by
  have hp := Nat.two_pow_pos k
  have hne : n * 2 ^ k ≠ 0 := Nat.ne_of_gt (Nat.mul_pos h0 hp)
  apply Nat.le_antisymm
  · have a : n < 2 ^ (n.log2 + 1) := Nat.lt_log2_self
    have : n * 2 ^ k < 2 ^ (n.log2 + k + 1) := by
      rw [show n.log2 + k + 1 = (n.log2 + 1) + k from by omega, Nat.pow_add 2 (n.log2 + 1) k]
      exact Nat.mul_lt_mul_of_pos_right a hp
    have := (Nat.log2_lt hne).2 this
    omega
  · refine (Nat.le_log2 hne).2 ?_
    rw [Nat.pow_add]
    exact Nat.mul_le_mul_right _ (Nat.log2_self_le (by omega))
/-- The same number, its last digit at another place. -/
theorem nearest_shift (s : Bool) (n k : Nat) (p : Int) : double.nearest s (n * 2 ^ k) (p - k) = double.nearest s n p := by
  by_cases h0 : n = 0
  · subst h0; rw [Nat.zero_mul, nearest_zero, nearest_zero]
  · have hp := Nat.two_pow_pos k
    have hne : ¬ n * 2 ^ k = 0 := Nat.ne_of_gt (Nat.mul_pos (by omega) hp)
    unfold Format.nearest
    rw [if_neg h0, if_neg hne, log2_shift n k (by omega)]
    dsimp only
    have e : p - (k : Int) + ((n.log2 + k : Nat) : Int) = p + (n.log2 : Int) := by omega
    rw [e]
    obtain ⟨l, hl⟩ : ∃ l, max (p + (n.log2 : Int) - (double.fractionBits : Int)) double.leastPlace = l := ⟨_, rfl⟩
    rw [hl]
    have key : Toward.even.cut s ((n * 2 ^ k) <<< (p - k - l).toNat) (l - (p - k)).toNat = Toward.even.cut s (n <<< (p - l).toNat) (l - p).toNat := by
      rw [cut_even, cut_even, Nat.shiftLeft_eq, Nat.shiftLeft_eq]
      by_cases h1 : l ≤ p - k
      · rw [show (l - (p - (k : Int))).toNat = 0 from by omega, show (l - p).toNat = 0 from by omega, show (p - l).toNat = k + (p - k - l).toNat from by omega, Nat.pow_add, Nat.mul_assoc]
      · by_cases h2 : l ≤ p
        · rw [show (p - (k : Int) - l).toNat = 0 from by omega, Nat.pow_zero, Nat.mul_one, show (l - p).toNat = 0 from by omega, Nat.pow_zero]
          have e2 : k = (p - l).toNat + (l - (p - (k : Int))).toNat := by omega
          obtain ⟨u, hu⟩ : ∃ u, (p - l).toNat = u := ⟨_, rfl⟩
          obtain ⟨v, hv⟩ : ∃ v, (l - (p - (k : Int))).toNat = v := ⟨_, rfl⟩
          rw [hu, hv] at e2
          rw [hu, hv, e2, Nat.pow_add, ← Nat.mul_assoc]
          have := rhe_scale (n * 2 ^ u) 1 (2 ^ v) (Nat.two_pow_pos v)
          rwa [Nat.one_mul] at this
        · rw [show (p - (k : Int) - l).toNat = 0 from by omega, Nat.pow_zero, Nat.mul_one, show (p - l).toNat = 0 from by omega, Nat.pow_zero, Nat.mul_one, show (l - (p - (k : Int))).toNat = (l - p).toNat + k from by omega, Nat.pow_add]
          exact rhe_scale n _ _ hp
    rw [key]

/-! ### 3. What a word from 0 upwards counts, in units of 2^-1074 -/
def val (x : Nat) : Nat := if x < 4503599627370496 then x else (4503599627370496 + x % 4503599627370496) * 2 ^ (x / 4503599627370496 - 1)
theorem val_lt {x y : Nat} (h : x < y) : val x < val y := by
  unfold val
  by_cases hy : y < 4503599627370496
  · rw [if_pos (by omega), if_pos hy]; exact h
  · rw [if_neg hy]
    have hp := Nat.two_pow_pos (y / 4503599627370496 - 1)
    by_cases hx : x < 4503599627370496
    · rw [if_pos hx]
      have : 4503599627370496 * 1 ≤ (4503599627370496 + y % 4503599627370496) * 2 ^ (y / 4503599627370496 - 1) := Nat.mul_le_mul (by omega) hp
      omega
    · rw [if_neg hx]
      have h1 := Nat.div_add_mod x 4503599627370496
      have h2 := Nat.div_add_mod y 4503599627370496
      have hm := Nat.mod_lt x (show 4503599627370496 > 0 by omega)
      obtain ⟨a, ha⟩ : ∃ a, x / 4503599627370496 = a := ⟨_, rfl⟩
      obtain ⟨b, hb⟩ : ∃ b, y / 4503599627370496 = b := ⟨_, rfl⟩
      obtain ⟨f, hf⟩ : ∃ a, x % 4503599627370496 = a := ⟨_, rfl⟩
      obtain ⟨g, hg⟩ : ∃ b, y % 4503599627370496 = b := ⟨_, rfl⟩
      rw [ha, hf] at h1
      rw [hb, hg] at h2
      rw [hf] at hm
      rw [ha, hb, hf, hg]
      rw [hb] at hp
      have hab : a ≤ b := by omega
      rcases Nat.lt_or_eq_of_le hab with hlt | rfl
      · have c : (4503599627370496 + f) * 2 ^ (a - 1) < 9007199254740992 * 2 ^ (a - 1) := Nat.mul_lt_mul_of_pos_right (by omega) (Nat.two_pow_pos _)
        have d : 4503599627370496 * 2 ^ (b - 1) ≤ (4503599627370496 + g) * 2 ^ (b - 1) := Nat.mul_le_mul_right _ (by omega)
        have e : 9007199254740992 * 2 ^ (a - 1) ≤ 4503599627370496 * 2 ^ (b - 1) := by
          rw [show (9007199254740992 : Nat) = 4503599627370496 * 2 ^ 1 from by decide, Nat.mul_assoc, ← Nat.pow_add]
          exact Nat.mul_le_mul_left _ (Nat.pow_le_pow_right (by omega) (by omega))
        omega
      · exact Nat.mul_lt_mul_of_pos_right (by omega) hp
theorem val_le {x y : Nat} (h : x ≤ y) : val x ≤ val y := by
  rcases Nat.lt_or_eq_of_le h with h | rfl
  · exact Nat.le_of_lt (val_lt h)
  · exact Nat.le_refl _
theorem val_inj {x y : Nat} (h : val x = val y) : x = y := by
  rcases Nat.lt_trichotomy x y with h1 | h1 | h1
  · have := val_lt h1; omega
  · exact h1
  · have := val_lt h1; omega

/-- What a finite word from 0 upwards is read as. -/
theorem read_num (x : Nat) (hx : x < 9218868437227405312) : ∃ m k : Nat, double.read x = .number false m (-1074 + (k : Int)) ∧ m * 2 ^ k = val x ∧ m < 9007199254740992 := by
  have h1 : (x / 9223372036854775808 % 2 == 1) = false := by rw [Nat.div_eq_of_lt (by omega)]; rfl
  have h2 : x % 9223372036854775808 = x := Nat.mod_eq_of_lt (by omega)
  unfold Format.read
  rw [sign_weight, bin_ade, inf_rung, least_place, h1, h2]
  dsimp only
  unfold val
  by_cases h : x < 4503599627370496
  · rw [if_pos h, if_pos h]; exact ⟨x, 0, by simp, by simp, by omega⟩
  · rw [if_neg h, if_neg h, if_pos hx]
    have := Nat.mod_lt x (show 4503599627370496 > 0 by omega)
    exact ⟨_, x / 4503599627370496 - 1, rfl, rfl, by omega⟩
theorem read_inf : double.read 9218868437227405312 = .infinity false := by decide +kernel

/-- The order of two words from 0 upwards. -/
theorem order_pos (x y : Nat) (hx : x ≤ 9218868437227405312) (hy : y ≤ 9218868437227405312) : double.order x y = some (compare x y) := by
  unfold Format.order
  by_cases ex : x = 9218868437227405312
  · subst ex
    rw [read_inf]
    by_cases ey : y = 9218868437227405312
    · subst ey; rw [read_inf]; decide
    · obtain ⟨m, k, e, _⟩ := read_num y (by omega)
      rw [e]
      unfold Datum.order
      dsimp only
      rw [if_neg (by simp), Nat.compare_eq_gt.2 (by omega)]
  · obtain ⟨m, k, e, hv, _⟩ := read_num x (by omega)
    rw [e]
    by_cases ey : y = 9218868437227405312
    · subst ey
      rw [read_inf]
      unfold Datum.order
      dsimp only
      rw [if_neg (by simp), Nat.compare_eq_lt.2 (by omega)]
    · obtain ⟨m', k', e', hv', _⟩ := read_num y (by omega)
      rw [e']
      unfold Datum.order
      dsimp only
      unfold signed
      simp only [Bool.false_eq_true, if_false, Option.some.injEq]
      rw [Nat.shiftLeft_eq, Nat.shiftLeft_eq]
      obtain ⟨c, hc⟩ : ∃ c, min k k' = c := ⟨_, rfl⟩
      rw [show (-1074 + (k : Int) - min (-1074 + (k : Int)) (-1074 + (k' : Int))).toNat = k - c from by omega, show (-1074 + (k' : Int) - min (-1074 + (k : Int)) (-1074 + (k' : Int))).toNat = k' - c from by omega]
      have a1 : m * 2 ^ (k - c) * 2 ^ c = val x := by rw [Nat.mul_assoc, ← Nat.pow_add, show k - c + c = k from by omega, hv]
      have a2 : m' * 2 ^ (k' - c) * 2 ^ c = val y := by rw [Nat.mul_assoc, ← Nat.pow_add, show k' - c + c = k' from by omega, hv']
      have hp := Nat.two_pow_pos c
      obtain ⟨u, hu⟩ : ∃ u, m * 2 ^ (k - c) = u := ⟨_, rfl⟩
      obtain ⟨v, hvv⟩ : ∃ u, m' * 2 ^ (k' - c) = u := ⟨_, rfl⟩
      rw [hu] at a1 ⊢
      rw [hvv] at a2 ⊢
      rcases Nat.lt_trichotomy x y with h | h | h
      · have := val_lt h
        rw [← a1, ← a2] at this
        have := Nat.lt_of_mul_lt_mul_right this
        rw [Nat.compare_eq_lt.2 h]
        exact Int.compare_eq_lt.2 (by omega)
      · subst h
        have : u = v := Nat.eq_of_mul_eq_mul_right hp (a1.trans a2.symm)
        subst this
        rw [Nat.compare_eq_eq.2 rfl]
        exact Int.compare_eq_eq.2 rfl
      · have := val_lt h
        rw [← a1, ← a2] at this
        have := Nat.lt_of_mul_lt_mul_right this
        rw [Nat.compare_eq_gt.2 h]
        exact Int.compare_eq_gt.2 (by omega)

/-! ### 4. What a float has is written as it is -/
theorem rg_val (x : Nat) (h0 : 0 < x) (_hx : x < 9218868437227405312) : rg 0 (val x) = x := by
  unfold val
  by_cases h : x < 4503599627370496
  · rw [if_pos h]
    have hl : x.log2 < 52 := (Nat.log2_lt (by omega)).2 (by simpa using h)
    unfold rg
    rw [show max (x.log2 - 52) 0 = 0 from by omega]
    have := rhe_exact x 1 (by omega)
    rw [Nat.mul_one] at this
    simpa using this
  · rw [if_neg h]
    have h1 := Nat.div_add_mod x 4503599627370496
    have hm := Nat.mod_lt x (show 4503599627370496 > 0 by omega)
    obtain ⟨a, ha⟩ : ∃ a, x / 4503599627370496 = a := ⟨_, rfl⟩
    obtain ⟨f, hf⟩ : ∃ a, x % 4503599627370496 = a := ⟨_, rfl⟩
    rw [ha, hf] at h1
    rw [hf] at hm
    rw [ha, hf]
    have hl : (4503599627370496 + f).log2 = 52 := (Nat.log2_eq_iff (by omega)).2 ⟨by omega, by omega⟩
    unfold rg
    rw [log2_shift _ _ (by omega), hl, show max (52 + (a - 1) - 52) 0 = a - 1 from by omega, rhe_exact _ _ (Nat.two_pow_pos _)]
    omega
/-- A number that a word has, written: that word. -/
theorem nearest_exact (x m : Nat) (k : Nat) (hx : x < 9218868437227405312) (h : m * 2 ^ k = val x) : double.nearest false m (-1074 + (k : Int)) = x := by
  by_cases h0 : x = 0
  · subst h0
    have : m = 0 := by
      have hp := Nat.two_pow_pos k
      have : m * 2 ^ k = 0 := h
      rcases Nat.mul_eq_zero.1 this with h | h
      · exact h
      · omega
    subst this
    rw [nearest_zero, word_pos]
  · rw [← nearest_shift false m k, show -1074 + (k : Int) - (k : Int) = -((1074 + 0 : Nat) : Int) from by omega, h, nearest_rg 0 _ (by have := val_lt (show 0 < x by omega); omega), rg_val x (by omega) hx]
    omega

/-! ### 5. Times a thousand -/
/-- 1000. -/
theorem read_1000 : double.read 4652007308841189376 = .number false (1000 * 2 ^ 43) (-43) := by decide +kernel
/-- The word of so many times a thousand. -/
def mulK (x : Nat) : Nat := if x = 0 then 0 else if x = 9218868437227405312 then 9218868437227405312 else min (rg 43 (val x * (1000 * 2 ^ 43))) 9218868437227405312
theorem mulK_le (x : Nat) : mulK x ≤ 9218868437227405312 := by unfold mulK; (repeat' split) <;> omega
theorem mulK_mono {x y : Nat} (h : x ≤ y) (hy : y ≤ 9218868437227405312) : mulK x ≤ mulK y := by
  by_cases h0 : x = 0
  · subst h0; unfold mulK; rw [if_pos rfl]; exact Nat.zero_le _
  · by_cases h1 : y = 9218868437227405312
    · have := mulK_le x
      subst h1
      exact this
    · unfold mulK
      rw [if_neg h0, if_neg (by omega), if_neg (by omega), if_neg h1]
      have hv := val_lt (show 0 < x by omega)
      have := rg_mono (s := 43) (n := val x * (1000 * 2 ^ 43)) (n' := val y * (1000 * 2 ^ 43)) (Nat.mul_pos (by omega) (by decide)) (Nat.mul_le_mul_right _ (val_le h))
      omega
theorem mul_1000 (x : Nat) (hx : x ≤ 9218868437227405312) : double.mul x 4652007308841189376 = some (mulK x) := by
  unfold Format.mul mulK
  rw [read_1000]
  by_cases h1 : x = 9218868437227405312
  · subst h1
    rw [read_inf, if_neg (by omega), if_pos rfl]
    decide +kernel
  · rw [if_neg h1]
    obtain ⟨m, k, e, hv, _⟩ := read_num x (by omega)
    rw [e]
    unfold Datum.product
    dsimp only
    rw [Option.map_some]
    unfold Format.write
    dsimp only
    rw [show (false ^^ false) = false from rfl]
    by_cases h0 : x = 0
    · subst h0
      have : m = 0 := by
        have hp := Nat.two_pow_pos k
        have : m * 2 ^ k = 0 := hv
        rcases Nat.mul_eq_zero.1 this with h | h
        · exact h
        · omega
      subst this
      rw [Nat.zero_mul, nearest_zero, word_pos, if_pos rfl]
    · rw [if_neg h0, ← nearest_shift false (m * (1000 * 2 ^ 43)) k, show -1074 + (k : Int) + -43 - (k : Int) = -((1074 + 43 : Nat) : Int) from by omega,
        show m * (1000 * 2 ^ 43) * 2 ^ k = val x * (1000 * 2 ^ 43) from by rw [← hv, Nat.mul_right_comm], nearest_rg 43 _ (Nat.mul_pos (by have := val_lt (show 0 < x by omega); omega) (by decide))]

/-! ### 6. Made whole -/
/-- One, in least units. -/
def oneE : Nat := 1074
def UU : Nat := 2 ^ oneE
theorem UU_pow : ∃ c, c = 1074 ∧ UU = 2 ^ c := ⟨oneE, rfl, rfl⟩
theorem UU_pos : 0 < UU := Nat.two_pow_pos oneE
/-- The whole part. -/
def flI (x : Nat) : Nat := val x / UU
theorem toInt_pos (x : Nat) (hx : x < 9218868437227405312) : (double.read x).toInt .zero = some ((flI x : Nat) : Int) := by
  obtain ⟨m, k, e, hv, _⟩ := read_num x hx
  rw [e]
  unfold Datum.toInt Datum.integral
  dsimp only
  rw [cut_zero]
  unfold signed
  rw [if_neg (by simp), Nat.shiftLeft_zero]
  congr 2
  unfold flI
  obtain ⟨c, hc, hU⟩ := UU_pow
  rw [hU, ← hv, Nat.shiftLeft_eq]
  by_cases h : c ≤ k
  · rw [show (-1074 + (k : Int)).toNat = k - c from by omega, show (-(-1074 + (k : Int))).toNat = 0 from by omega, Nat.pow_zero, Nat.div_one]
    have : m * 2 ^ k = m * 2 ^ (k - c) * 2 ^ c := by rw [Nat.mul_assoc, ← Nat.pow_add, show k - c + c = k from by omega]
    rw [this, Nat.mul_div_cancel _ (Nat.two_pow_pos c)]
  · rw [show (-1074 + (k : Int)).toNat = 0 from by omega, show (-(-1074 + (k : Int))).toNat = c - k from by omega, Nat.pow_zero, Nat.mul_one]
    have : (2 : Nat) ^ c = 2 ^ (c - k) * 2 ^ k := by rw [← Nat.pow_add, show c - k + k = c from by omega]
    rw [this, Nat.mul_div_mul_right _ _ (Nat.two_pow_pos k)]
/-- Its fraction's bits struck. -/
def trI (x : Nat) : Nat := if x < 4607182418800017408 then 0 else if x < 4841369599423283200 then x - x % 2 ^ (1075 - x / 4503599627370496) else x
theorem tr_le (x : Nat) : trI x ≤ x := by unfold trI; (repeat' split) <;> omega
theorem tr_val (x : Nat) : val (trI x) = flI x * UU := by
  unfold trI flI
  by_cases h1 : x < 4607182418800017408
  · rw [if_pos h1]
    have a := val_lt h1
    have b : val 4607182418800017408 = UU := by
      obtain ⟨c, hc, hU⟩ := UU_pow
      unfold val
      rw [if_neg (by omega), show 4607182418800017408 / 4503599627370496 - 1 = c - 52 from by omega, show 4607182418800017408 % 4503599627370496 = 0 from by omega, hU, Nat.add_zero, show (4503599627370496 : Nat) = 2 ^ 52 from by decide, ← Nat.pow_add, show 52 + (c - 52) = c from by omega]
    rw [b] at a
    rw [Nat.div_eq_of_lt a, Nat.zero_mul]
    rfl
  · rw [if_neg h1]
    have h1' := Nat.div_add_mod x 4503599627370496
    have hm := Nat.mod_lt x (show 4503599627370496 > 0 by omega)
    unfold val
    by_cases h2 : x < 4841369599423283200
    · rw [if_pos h2]
      obtain ⟨a, ha⟩ : ∃ a, x / 4503599627370496 = a := ⟨_, rfl⟩
      obtain ⟨f, hf⟩ : ∃ a, x % 4503599627370496 = a := ⟨_, rfl⟩
      rw [ha, hf] at h1'
      rw [hf] at hm
      have ha1 : 1023 ≤ a := by omega
      have ha2 : a ≤ 1074 := by omega
      have hpj := Nat.two_pow_pos (1075 - a)
      have h52 : (4503599627370496 : Nat) = 2 ^ (a - 1023) * 2 ^ (1075 - a) := by rw [← Nat.pow_add, show a - 1023 + (1075 - a) = 52 from by omega]
      have hxm : x % 2 ^ (1075 - a) = f % 2 ^ (1075 - a) := by
        rw [← h1']
        rw [show 4503599627370496 * a = (2 ^ (a - 1023) * a) * 2 ^ (1075 - a) from by rw [h52, Nat.mul_right_comm], Nat.mul_add_mod_self_right]
      have hle : f % 2 ^ (1075 - a) ≤ f := Nat.mod_le _ _
      rw [ha, hxm]
      have e1 : x - f % 2 ^ (1075 - a) = 4503599627370496 * a + (f - f % 2 ^ (1075 - a)) := by omega
      have e2 : (x - f % 2 ^ (1075 - a)) / 4503599627370496 = a := by omega
      have e3 : (x - f % 2 ^ (1075 - a)) % 4503599627370496 = f - f % 2 ^ (1075 - a) := by omega
      rw [e2, e3, if_neg (by omega), if_neg (by omega), hf]
      obtain ⟨j, hj⟩ : ∃ j, 1075 - a = j := ⟨_, rfl⟩
      rw [hj] at hpj h52 hle ⊢
      have hU : UU = 2 ^ j * 2 ^ (a - 1) := by
        obtain ⟨c, hc, hU⟩ := UU_pow
        rw [hU, ← Nat.pow_add, show j + (a - 1) = c from by omega]
      rw [hU, Nat.mul_div_mul_right _ _ (Nat.two_pow_pos _), ← Nat.mul_assoc]
      refine congrArg (· * 2 ^ (a - 1)) ?_
      have d1 := Nat.div_add_mod (4503599627370496 + f) (2 ^ j)
      have d2 : (4503599627370496 + f) % 2 ^ j = f % 2 ^ j := by rw [h52, Nat.mul_add_mod_self_right]
      rw [d2, Nat.mul_comm] at d1
      omega
    · rw [if_neg h2, if_neg (by omega)]
      obtain ⟨a, ha⟩ : ∃ a, x / 4503599627370496 = a := ⟨_, rfl⟩
      rw [ha]
      have ha1 : 1075 ≤ a := by omega
      obtain ⟨c, hc, hU⟩ := UU_pow
      have : ∀ m : Nat, m * 2 ^ (a - 1) = m * 2 ^ (a - 1 - c) * UU := fun m => by rw [hU, Nat.mul_assoc, ← Nat.pow_add, show a - 1 - c + c = a - 1 from by omega]
      rw [this, Nat.mul_div_cancel _ UU_pos]
theorem tr_eq (x : Nat) : trI x = x ↔ val x % UU = 0 := by
  have h := tr_val x
  have hd := Nat.div_add_mod (val x) UU
  unfold flI at h
  rw [Nat.mul_comm] at h
  constructor
  · intro e
    rw [e] at h
    omega
  · intro e
    exact val_inj (by omega)
/-- The least whole number not below. -/
def ceI (x : Nat) : Nat := if trI x = x then flI x else flI x + 1
theorem ce_mono {x y : Nat} (h : x ≤ y) : ceI x ≤ ceI y := by
  have hv := val_le h
  have hf : flI x ≤ flI y := Nat.div_le_div_right hv
  unfold ceI
  by_cases hx : trI x = x
  · rw [if_pos hx]; split <;> omega
  · rw [if_neg hx]
    by_cases hy : trI y = y
    · rw [if_pos hy]
      have ty := tr_val y
      rw [hy] at ty
      have : ¬ flI y ≤ flI x := fun hle => by
        have e : flI x = flI y := by omega
        have tx := tr_val x
        rw [e, ← ty] at tx
        have := val_le (tr_le x)
        have hxy : val x = val y := by omega
        have := val_inj hxy
        subst this
        exact hx hy
      omega
    · rw [if_neg hy]; omega

/-! ### 7. Upwards to a whole number, as a float and back -/
theorem cut_up (n d : Nat) : Toward.up.cut false n d = n / 2 ^ d + (n % 2 ^ d != 0).toNat := by
  unfold Toward.cut
  dsimp only
  rw [Nat.one_shiftLeft]
  by_cases h : d ≤ n.log2 + 2
  · rw [Nat.min_eq_left h]; rfl
  · rw [Nat.min_eq_right (by omega)]
    have h1 : n < 2 ^ (n.log2 + 1) := Nat.lt_log2_self
    have h2 : 2 ^ (n.log2 + 2) = 2 * 2 ^ (n.log2 + 1) := by rw [Nat.pow_succ, Nat.mul_comm]
    have h3 : 2 ^ (n.log2 + 2) ≤ 2 ^ d := Nat.pow_le_pow_right (by omega) (by omega)
    rw [Nat.div_eq_of_lt (show n < 2 ^ (n.log2 + 2) by omega), Nat.div_eq_of_lt (show n < 2 ^ d by omega), Nat.mod_eq_of_lt (show n < 2 ^ (n.log2 + 2) by omega), Nat.mod_eq_of_lt (show n < 2 ^ d by omega)]
    rfl
theorem ce_cut (x m k : Nat) (hv : m * 2 ^ k = val x) : Toward.up.cut false (m <<< (-1074 + (k : Int)).toNat) (-(-1074 + (k : Int))).toNat = ceI x := by
  rw [cut_up, Nat.shiftLeft_eq]
  have ht := tr_eq x
  obtain ⟨c, hc, hU⟩ := UU_pow
  have key : ∀ q r : Nat, flI x = q → (val x % UU = 0 ↔ r = 0) → q + (r != 0).toNat = ceI x := by
    intro q r h1 h2
    unfold ceI
    rw [h1]
    by_cases hr : r = 0
    · rw [if_pos (ht.2 (h2.2 hr)), hr]; rfl
    · have hn : ¬ trI x = x := fun e => hr (h2.1 (ht.1 e))
      have : (r != 0) = true := by simpa using hr
      rw [if_neg hn, this]; rfl
  refine key _ _ ?_ ?_
  · unfold flI
    rw [hU, ← hv]
    by_cases h : c ≤ k
    · rw [show (-1074 + (k : Int)).toNat = k - c from by omega, show (-(-1074 + (k : Int))).toNat = 0 from by omega, Nat.pow_zero, Nat.div_one]
      have : m * 2 ^ k = m * 2 ^ (k - c) * 2 ^ c := by rw [Nat.mul_assoc, ← Nat.pow_add, show k - c + c = k from by omega]
      rw [this, Nat.mul_div_cancel _ (Nat.two_pow_pos c)]
    · rw [show (-1074 + (k : Int)).toNat = 0 from by omega, show (-(-1074 + (k : Int))).toNat = c - k from by omega, Nat.pow_zero, Nat.mul_one]
      have : (2 : Nat) ^ c = 2 ^ (c - k) * 2 ^ k := by rw [← Nat.pow_add, show c - k + k = c from by omega]
      rw [this, Nat.mul_div_mul_right _ _ (Nat.two_pow_pos k)]
  · rw [hU, ← hv]
    by_cases h : c ≤ k
    · rw [show (-1074 + (k : Int)).toNat = k - c from by omega, show (-(-1074 + (k : Int))).toNat = 0 from by omega, Nat.pow_zero, Nat.mod_one]
      have : m * 2 ^ k = m * 2 ^ (k - c) * 2 ^ c := by rw [Nat.mul_assoc, ← Nat.pow_add, show k - c + c = k from by omega]
      rw [this, Nat.mul_mod_left]
    · rw [show (-1074 + (k : Int)).toNat = 0 from by omega, show (-(-1074 + (k : Int))).toNat = c - k from by omega, Nat.pow_zero, Nat.mul_one]
      have : (2 : Nat) ^ c = 2 ^ (c - k) * 2 ^ k := by rw [← Nat.pow_add, show c - k + k = c from by omega]
      rw [this, Nat.mul_mod_mul_right]
      have hp := Nat.two_pow_pos k
      constructor
      · intro e
        rcases Nat.mul_eq_zero.1 e with e | e
        · exact e
        · omega
      · intro e; rw [e, Nat.zero_mul]
/-- A whole number below 2^53 has a word. -/
theorem whole_word (K : Nat) (h0 : 0 < K) (h : K < 9007199254740992) : ∃ d, d < 9218868437227405312 ∧ val d = K * UU := by
  obtain ⟨c, hc, hU⟩ := UU_pow
  have hl : K.log2 < 53 := (Nat.log2_lt (by omega)).2 (by simpa using h)
  have a : K < 2 ^ (K.log2 + 1) := Nat.lt_log2_self
  have b : 2 ^ K.log2 ≤ K := Nat.log2_self_le (by omega)
  obtain ⟨L, hL⟩ : ∃ L, K.log2 = L := ⟨_, rfl⟩
  rw [hL] at hl a b
  have m1 : 4503599627370496 ≤ K * 2 ^ (52 - L) := by
    have := Nat.mul_le_mul_right (2 ^ (52 - L)) b
    rw [← Nat.pow_add, show L + (52 - L) = 52 from by omega] at this
    exact this
  have m2 : K * 2 ^ (52 - L) < 9007199254740992 := by
    have := Nat.mul_lt_mul_of_pos_right a (Nat.two_pow_pos (52 - L))
    rw [← Nat.pow_add, show L + 1 + (52 - L) = 53 from by omega] at this
    exact this
  obtain ⟨m, hm⟩ : ∃ m, K * 2 ^ (52 - L) = m := ⟨_, rfl⟩
  rw [hm] at m1 m2
  refine ⟨(L + 1022) * 4503599627370496 + m, by omega, ?_⟩
  unfold val
  rw [if_neg (by omega), show ((L + 1022) * 4503599627370496 + m) / 4503599627370496 - 1 = L + 1022 from by omega, show 4503599627370496 + ((L + 1022) * 4503599627370496 + m) % 4503599627370496 = m from by omega, ← hm, Nat.mul_assoc, ← Nat.pow_add, hU, show 52 - L + (L + 1022) = c from by omega]
/-- The word of the whole number that x is made, upwards; it reads back as that. -/
theorem ceil_word (x : Nat) (hx : x < 9218868437227405312) : ∃ d, d < 9218868437227405312 ∧ double.write ((double.read x).integral .up) = d ∧ flI d = ceI x := by
  obtain ⟨m, k, e, hv, _⟩ := read_num x hx
  rw [e]
  unfold Datum.integral Format.write
  dsimp only
  rw [ce_cut x m k hv]
  have w : ∀ d, d < 9218868437227405312 → val d = ceI x * UU → double.nearest false (ceI x) 0 = d ∧ flI d = ceI x := by
    intro d hd h
    obtain ⟨c, hc, hU⟩ := UU_pow
    have := nearest_exact d (ceI x) c hd (by rw [h, hU])
    rw [show -1074 + (c : Int) = 0 from by omega] at this
    refine ⟨this, ?_⟩
    unfold flI
    rw [h, Nat.mul_div_cancel _ UU_pos]
  by_cases ht : trI x = x
  · have hvx := tr_val x
    rw [ht] at hvx
    have hc : ceI x = flI x := by unfold ceI; rw [if_pos ht]
    exact ⟨x, hx, w x hx (by rw [hc]; exact hvx)⟩
  · have hc : ceI x = flI x + 1 := by unfold ceI; rw [if_neg ht]
    have hlt : x < 4841369599423283200 := by
      by_cases h1 : x < 4841369599423283200
      · exact h1
      · exfalso; apply ht; unfold trI; rw [if_neg (by omega), if_neg h1]
    have hb : val x < 4503599627370496 * UU := by
      have a := val_lt hlt
      have b : val 4841369599423283200 = 4503599627370496 * UU := by
        obtain ⟨c, hc, hU⟩ := UU_pow
        unfold val
        rw [if_neg (by omega), show 4841369599423283200 / 4503599627370496 - 1 = c from by omega, show 4503599627370496 + 4841369599423283200 % 4503599627370496 = 4503599627370496 from by omega, hU]
      omega
    have hf : flI x < 4503599627370496 := by unfold flI; exact (Nat.div_lt_iff_lt_mul UU_pos).2 hb
    obtain ⟨d, hd, hdv⟩ := whole_word (ceI x) (by omega) (by omega)
    exact ⟨d, hd, w d hd hdv⟩
/-- A whole part, as a float: what is left of the bits. -/
theorem float_fl (x : Nat) (hx : x < 9218868437227405312) : floatOfInt .f64 ((flI x : Nat) : Int) = trI x := by
  have hlt : trI x < 9218868437227405312 := Nat.lt_of_le_of_lt (tr_le x) hx
  obtain ⟨c, hc, hU⟩ := UU_pow
  have := nearest_exact (trI x) (flI x) c hlt (by rw [tr_val, hU])
  rw [show -1074 + (c : Int) = 0 from by omega] at this
  show double.write (.number (decide (((flI x : Nat) : Int) < 0)) ((flI x : Nat) : Int).natAbs 0) = _
  rw [show decide (((flI x : Nat) : Int) < 0) = false from by simp, Int.natAbs_natCast]
  exact this
theorem ce_u (x : Nat) (hx : x < 4895412794951729152) : ceI x ≤ 18446744073709551615 ∧ flI x ≤ 18446744073709551615 ∧ (¬ trI x = x → flI x + 1 ≤ 18446744073709551615) := by
  have a := val_lt hx
  have b : val 4895412794951729152 = 18446744073709551616 * UU := by
    obtain ⟨c, hc, hU⟩ := UU_pow
    unfold val
    rw [if_neg (by omega), show 4895412794951729152 / 4503599627370496 - 1 = 12 + c from by omega, show 4503599627370496 + 4895412794951729152 % 4503599627370496 = 4503599627370496 from by omega, hU, show (18446744073709551616 : Nat) = 4503599627370496 * 2 ^ 12 from by decide, Nat.pow_add, Nat.mul_assoc]
  have hf : flI x < 18446744073709551616 := by unfold flI; exact (Nat.div_lt_iff_lt_mul UU_pos).2 (by omega)
  have h2 : ¬ trI x = x → flI x + 1 ≤ 18446744073709551615 := by
    intro ht
    have hlt : x < 4841369599423283200 := by
      by_cases h1 : x < 4841369599423283200
      · exact h1
      · exfalso; apply ht; unfold trI; rw [if_neg (by omega), if_neg h1]
    have a := val_lt hlt
    have b : val 4841369599423283200 = 4503599627370496 * UU := by
      obtain ⟨c, hc, hU⟩ := UU_pow
      unfold val
      rw [if_neg (by omega), show 4841369599423283200 / 4503599627370496 - 1 = c from by omega, show 4503599627370496 + 4841369599423283200 % 4503599627370496 = 4503599627370496 from by omega, hU]
    have : flI x < 4503599627370496 := by unfold flI; exact (Nat.div_lt_iff_lt_mul UU_pos).2 (by omega)
    omega
  refine ⟨?_, by omega, h2⟩
  unfold ceI
  split
  · omega
  · rename_i ht; exact h2 ht

/-! ### 8. Every word -/
theorem near_le (m : Nat) (p : Int) : double.nearest false m p ≤ 9218868437227405312 := by
  unfold Format.nearest
  split
  · rw [word_pos]; omega
  · dsimp only; rw [word_pos, inf_rung]; omega
theorem order_self (x : Nat) (hx : x ≤ 9218868437227405312) : double.order x x = some .eq := by rw [order_pos x x hx hx, Nat.compare_eq_eq.2 rfl]
theorem div_1000 (x : Nat) (hx : x ≤ 9218868437227405312) : ∃ r, double.div x 4652007308841189376 = some r ∧ r ≤ 9218868437227405312 := by
  unfold Format.div
  rw [read_1000]
  by_cases h : x = 9218868437227405312
  · subst h
    rw [read_inf]
    exact ⟨_, rfl, by unfold Format.write; dsimp only; rw [show (false ^^ false) = false from rfl, word_pos, inf_rung]; omega⟩
  · obtain ⟨m, k, e, _⟩ := read_num x (by omega)
    rw [e]
    unfold Datum.quotient
    dsimp only
    rw [if_neg (by decide)]
    exact ⟨_, rfl, near_le _ _⟩
/-- Negative words: zero, a number below it, or negative infinity. -/
theorem read_neg (u : Nat) (hu : u ≤ 9218868437227405312) : double.read (9223372036854775808 + u) = (double.read u).opposite := by
  have h1 : ((9223372036854775808 + u) / 9223372036854775808 % 2 == 1) = true := by rw [show (9223372036854775808 + u) / 9223372036854775808 = 1 from by omega]; rfl
  have h2 : (9223372036854775808 + u) % 9223372036854775808 = u := by omega
  have h3 : (u / 9223372036854775808 % 2 == 1) = false := by rw [Nat.div_eq_of_lt (by omega)]; rfl
  have h4 : u % 9223372036854775808 = u := Nat.mod_eq_of_lt (by omega)
  unfold Format.read
  rw [sign_weight, bin_ade, inf_rung, least_place, h1, h2, h3, h4]
  dsimp only
  split
  · rfl
  · split
    · rfl
    · split
      · rfl
      · omega
theorem order_neg_self (u : Nat) (hu : u ≤ 9218868437227405312) : double.order (9223372036854775808 + u) (9223372036854775808 + u) = some .eq := by
  unfold Format.order
  rw [read_neg u hu]
  by_cases h : u = 9218868437227405312
  · subst h; rw [read_inf]; rfl
  · obtain ⟨m, k, e, _⟩ := read_num u (by omega)
    rw [e]
    unfold Datum.opposite Datum.order
    dsimp only
    rw [Int.compare_eq_eq.2 rfl]
theorem order_neg_zero (u : Nat) (h0 : 0 < u) (hu : u ≤ 9218868437227405312) : double.order (9223372036854775808 + u) 0 = some .lt := by
  unfold Format.order
  rw [read_neg u hu]
  have hz : double.read 0 = .number false 0 (-1074) := by decide +kernel
  rw [hz]
  by_cases h : u = 9218868437227405312
  · subst h; rw [read_inf]; rfl
  · obtain ⟨m, k, e, hv, _⟩ := read_num u (by omega)
    rw [e]
    unfold Datum.opposite Datum.order
    dsimp only
    have hm : 0 < m := by
      rcases Nat.eq_zero_or_pos m with rfl | h
      · have := val_lt h0
        rw [Nat.zero_mul] at hv
        omega
      · exact h
    unfold signed
    rw [if_pos (by rfl), if_neg (by simp), Nat.shiftLeft_eq, Nat.shiftLeft_eq, Nat.zero_mul]
    have : 0 < m * 2 ^ (-1074 + (k : Int) - min (-1074 + (k : Int)) (-1074)).toNat := Nat.mul_pos hm (Nat.two_pow_pos _)
    rw [Int.compare_eq_lt.2 (by omega)]
theorem read_nan (x : Nat) (hx : x < 18446744073709551616) (h : ¬ x ≤ 9218868437227405312) (h' : ¬ (9223372036854775808 ≤ x ∧ x ≤ 18442240474082181120)) : ∃ s t, double.read x = .nan s t := by
  unfold Format.read
  rw [sign_weight, bin_ade, inf_rung, least_place]
  dsimp only
  rw [if_neg (by omega), if_neg (by omega), if_neg (by omega)]
  exact ⟨_, _, rfl⟩
theorem order_nan (x y : Nat) (hx : x < 18446744073709551616) (h : ¬ x ≤ 9218868437227405312) (h' : ¬ (9223372036854775808 ≤ x ∧ x ≤ 18442240474082181120)) : double.order x y = none := by
  obtain ⟨s, t, e⟩ := read_nan x hx h h'
  unfold Format.order
  rw [e]
  rfl
theorem order_nan2 (x y : Nat) (hx : x < 18446744073709551616) (h : ¬ x ≤ 9218868437227405312) (h' : ¬ (9223372036854775808 ≤ x ∧ x ≤ 18442240474082181120)) : double.order y x = none := by
  obtain ⟨s, t, e⟩ := read_nan x hx h h'
  unfold Format.order
  rw [e]
  cases double.read y <;> rfl
end Go.Proofs.Ytaekaonelmiokaa
