/-
  WHAT IS OF NO PROGRAM: the greatest member of a set, and the least from a number on, out of its words and out of its list.
-/
import Derived.Test.YthpinbngggcgcaaDoorCount
namespace Go.Proofs.YthpinbngggcgcaaDoor

theorem bitLenAux_bd (f : Nat) : ∀ x, x < 2 ^ f → x < 2 ^ (Lib.bitLenAux f x) ∧ (x ≠ 0 → 0 < Lib.bitLenAux f x ∧ 2 ^ (Lib.bitLenAux f x - 1) ≤ x) ∧ Lib.bitLenAux f x ≤ f := by
  induction f with
  | zero => intro x h; simp at h; subst h; simp [Lib.bitLenAux]
  | succ f ih =>
    intro x h
    simp only [Lib.bitLenAux]
    by_cases h0 : x = 0
    · simp [h0]
    · rw [if_neg h0]
      obtain ⟨h1, h2, h3⟩ := ih (x / 2) (by rw [Nat.pow_succ] at h; omega)
      obtain ⟨L, hL⟩ : ∃ L, Lib.bitLenAux f (x / 2) = L := ⟨_, rfl⟩
      rw [hL] at h1 h2 h3 ⊢
      have e : 2 ^ (1 + L) = 2 * 2 ^ L := by rw [Nat.add_comm, Nat.pow_succ]; omega
      refine ⟨by omega, fun _ => ⟨by omega, ?_⟩, by omega⟩
      rw [show 1 + L - 1 = L from by omega]
      by_cases h4 : x / 2 = 0
      · have : L = 0 := by
          rw [← hL, h4]
          cases f <;> simp [Lib.bitLenAux]
        subst this
        omega
      · obtain ⟨h5, h6⟩ := h2 h4
        have e2 : 2 ^ L = 2 * 2 ^ (L - 1) := by
          conv => lhs; rw [show L = (L - 1) + 1 from by omega, Nat.pow_succ]
          omega
        omega
theorem bitLen32 (x : Nat) (hx : x < 4294967296) : Lib.bitLen x = Lib.bitLenAux 32 x := Lib.bitLenAux_fuel 32 x hx 64 (by omega)
theorem bitLen_le32 (x : Nat) (hx : x < 4294967296) : Lib.bitLen x ≤ 32 := by
  rw [bitLen32 x hx]; exact (bitLenAux_bd 32 x hx).2.2
theorem bitLen_top (x : Nat) (hx : x < 4294967296) (h0 : x ≠ 0) : 0 < Lib.bitLen x ∧ x.testBit (Lib.bitLen x - 1) = true ∧ ∀ i, Lib.bitLen x ≤ i → x.testBit i = false := by
  have e := bitLen32 x hx
  obtain ⟨h1, h2, _⟩ := bitLenAux_bd 32 x hx
  rw [← e] at h1 h2
  obtain ⟨h3, h4⟩ := h2 h0
  refine ⟨h3, ?_, fun i hi => Nat.testBit_lt_two_pow (Nat.lt_of_lt_of_le h1 (Nat.pow_le_pow_right (by omega) hi))⟩
  rw [Nat.testBit_eq_decide_div_mod_eq]
  have e2 : 2 ^ Lib.bitLen x = 2 * 2 ^ (Lib.bitLen x - 1) := by
    conv => lhs; rw [show Lib.bitLen x = (Lib.bitLen x - 1) + 1 from by omega, Nat.pow_succ]
    omega
  have hp : 0 < 2 ^ (Lib.bitLen x - 1) := Nat.two_pow_pos _
  have : x / 2 ^ (Lib.bitLen x - 1) = 1 := by
    apply Nat.le_antisymm
    · exact Nat.le_of_lt_succ ((Nat.div_lt_iff_lt_mul hp).2 (by omega))
    · exact (Nat.le_div_iff_mul_le hp).2 (by omega)
  simp [this]

/-- The greatest member, or -1. -/
def topI (a b : Nat) : Int := if b = 0 then (if a = 0 then -1 else (Lib.bitLen a : Int) - 1) else 32 + (Lib.bitLen b : Int) - 1
theorem last_filter (p : Nat → Bool) (m : Nat) : ∀ n, m < n → p m = true → (∀ k, m < k → k < n → p k = false) → ((List.range n).filter p).getLast? = some m
  | 0, h, _, _ => by omega
  | n + 1, h, hp, hk => by
    rw [List.range_succ, List.filter_append]
    by_cases e : m = n
    · subst e
      simp [hp]
    · have : p n = false := hk n (by omega) (by omega)
      simp only [List.filter_cons, this, List.filter_nil]
      simpa using last_filter p m n (by omega) hp fun k h1 h2 => hk k h1 (by omega)
theorem none_filter (p : Nat → Bool) (n : Nat) (h : ∀ k, k < n → p k = false) : (List.range n).filter p = [] := by
  rw [List.filter_eq_nil_iff]
  intro k hk
  simp [h k (by simpa using hk)]
theorem top_last (a b : Nat) (ha : a < 4294967296) (hb : b < 4294967296) : (memI a b).getLast?.getD (-1) = topI a b := by
  unfold memI topI
  rw [List.getLast?_map]
  unfold mem
  by_cases h : b = 0
  · rw [if_pos h]
    subst h
    by_cases h2 : a = 0
    · subst h2
      rw [if_pos rfl, none_filter _ _ fun k _ => by simp [hasB]]
      rfl
    · rw [if_neg h2]
      obtain ⟨h3, h4, h5⟩ := bitLen_top a ha h2
      have h6 := bitLen_le32 a ha
      rw [last_filter _ (Lib.bitLen a - 1) 64 (by omega) (by unfold hasB; rw [if_pos (by omega)]; exact h4) fun k h7 h8 => by
        unfold hasB
        split
        · exact h5 k (by omega)
        · simp]
      simp; omega
  · rw [if_neg h]
    obtain ⟨h3, h4, h5⟩ := bitLen_top b hb h
    have h6 := bitLen_le32 b hb
    rw [last_filter _ (32 + Lib.bitLen b - 1) 64 (by omega) (by unfold hasB; rw [if_neg (by omega), show 32 + Lib.bitLen b - 1 - 32 = Lib.bitLen b - 1 from by omega]; exact h4) fun k h7 h8 => by
      unfold hasB
      rw [if_neg (by omega)]
      exact h5 _ (by omega)]
    simp; omega
end Go.Proofs.YthpinbngggcgcaaDoor
