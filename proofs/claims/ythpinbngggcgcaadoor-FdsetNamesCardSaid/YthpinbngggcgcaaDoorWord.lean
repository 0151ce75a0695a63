/-
  WHAT IS OF NO PROGRAM: the bits of a word, rising; the lowest one taken off.
-/
import Derived.Test.YthpinbngggcgcaaDoorCount
namespace Go.Proofs.YthpinbngggcgcaaDoor

/-- The bits of a word, rising. -/
def wl (x : Nat) : List Nat := (List.range 32).filter (fun i => x.testBit i)
theorem wl_zero : wl 0 = [] := by
  unfold wl
  rw [List.filter_eq_nil_iff]
  intro k _
  simp
theorem mem_wl (a b : Nat) : mem a b = wl a ++ (wl b).map (· + 32) := by
  unfold mem wl
  rw [range64, List.filter_append, List.filter_map]
  have e1 : (List.range 32).filter (hasB a b) = (List.range 32).filter (fun i => a.testBit i) := List.filter_congr fun n hn => by
    have : n < 32 := by simpa using hn
    simp [hasB, this]
  have e2 : (List.range 32).filter (hasB a b ∘ fun x => x + 32) = (List.range 32).filter (fun i => b.testBit i) := List.filter_congr fun n hn => by
    have : ¬ n + 32 < 32 := by omega
    simp [hasB, this]
  rw [e1, e2]
theorem filter_least (p q : Nat → Bool) (c : Nat) (hp : p c = true) (hq : ∀ i, q i = (p i && decide (i ≠ c))) : ∀ len s, s ≤ c → c < s + len → (∀ i, s ≤ i → i < c → p i = false) →
    (List.range' s len).filter p = c :: (List.range' s len).filter q
  | 0, s, h1, h2, _ => by omega
  | len + 1, s, h1, h2, h3 => by
    rw [List.range'_succ]
    by_cases e : s = c
    · subst e
      have hqs : q s = false := by rw [hq]; simp
      rw [List.filter_cons, List.filter_cons, hp, hqs]
      simp only [if_true]
      congr 1
      refine List.filter_congr fun n hn => ?_
      have : s < n := by have := (List.mem_range'_1.1 hn).1; omega
      rw [hq, decide_eq_true (show n ≠ s by omega), Bool.and_true]
    · have hps : p s = false := h3 s (Nat.le_refl _) (by omega)
      have hqs : q s = false := by rw [hq, hps]; rfl
      rw [List.filter_cons, List.filter_cons, hps, hqs]
      simpa using filter_least p q c hp hq len (s + 1) (by omega) (by omega) fun i h4 h5 => h3 i (by omega) h5
theorem low_bits (x c m : Nat) (h : x = 2 ^ c * (2 * m + 1)) (i : Nat) : x.testBit i = (if i < c then false else (2 * m + 1).testBit (i - c)) := by
  have := Nat.testBit_two_pow_mul_add (a := 2 * m + 1) (b := 0) (i := c) (Nat.two_pow_pos c) i
  rw [Nat.add_zero, ← h] at this
  rw [this]
  split <;> simp
theorem low_less (x c m : Nat) (h : x = 2 ^ c * (2 * m + 1)) (i : Nat) : (x - 1).testBit i = (if i < c then (2 ^ c - 1).testBit i else (2 * m).testBit (i - c)) := by
  have hp : 0 < 2 ^ c := Nat.two_pow_pos c
  have e : x - 1 = 2 ^ c * (2 * m) + (2 ^ c - 1) := by
    rw [h, Nat.mul_add, Nat.mul_one]; omega
  rw [e]
  exact Nat.testBit_two_pow_mul_add (a := 2 * m) (b := 2 ^ c - 1) (i := c) (by omega) i
theorem odd_bits (m j : Nat) : (2 * m + 1).testBit j = (decide (j = 0) || (2 * m).testBit j) := by
  cases j with
  | zero => simp
  | succ j =>
    rw [Nat.testBit_succ, Nat.testBit_succ]
    rw [show (2 * m + 1) / 2 = m from by omega, show 2 * m / 2 = m from by omega]
    simp
theorem wl_step (x : Nat) (h0 : 0 < x) (hx : x < 4294967296) : wl x = Lib.ctz 32 x :: wl (x &&& (x - 1)) ∧ Lib.ctz 32 x < 32 := by
  have hc : Lib.ctz 32 x = Lib.ctzFrom 32 x := by unfold Lib.ctz; rw [if_neg (by omega)]
  rw [hc]
  obtain ⟨m, hm, hlt⟩ := Lib.ctzFrom_spec 32 x h0 hx
  obtain ⟨c, hcc⟩ : ∃ c, Lib.ctzFrom 32 x = c := ⟨_, rfl⟩
  rw [hcc] at hm hlt ⊢
  refine ⟨?_, hlt⟩
  unfold wl
  rw [List.range_eq_range']
  refine filter_least _ _ c ?_ (fun i => ?_) 32 0 (by omega) (by omega) fun i _ hi => ?_
  · rw [low_bits x c m hm, if_neg (by omega), Nat.sub_self, odd_bits]; rfl
  · rw [Nat.testBit_and, low_less x c m hm, low_bits x c m hm]
    by_cases hi : i < c
    · rw [if_pos hi, if_pos hi]; simp
    · rw [if_neg hi, if_neg hi, odd_bits]
      by_cases e : i = c
      · subst e; simp
      · rw [decide_eq_false (show ¬ i - c = 0 by omega), decide_eq_true (show i ≠ c from e)]; simp
  · rw [low_bits x c m hm, if_pos hi]
theorem and_pred_lt (x : Nat) (h0 : 0 < x) : x &&& (x - 1) < x := Nat.lt_of_le_of_lt Nat.and_le_right (by omega)
end Go.Proofs.YthpinbngggcgcaaDoor
