/-
  Bits of whole numbers below 64: what and, and not, and or come to. Plain mathematics.
-/
import Derived.Laws.BitsAllLaws
import Derived.Laws.BitsLemmas
namespace Go.Proofs.YtbpgoopmfofcnaaDoor

theorem toNat_ofInt64 (m : Int) : (BitVec.ofInt 64 m).toNat = (m % 18446744073709551616).toNat := by rw [BitVec.toNat_ofInt]; rfl
theorem and_low (x c : Nat) (hc : c < 64) : x &&& c = (x % 64) &&& c := by
  have e : c = 63 &&& c := by
    rw [Nat.and_comm, show 63 = 2 ^ 6 - 1 from rfl, Nat.and_two_pow_sub_one_eq_mod, Nat.mod_eq_of_lt hc]
  conv => lhs; rw [e, ← Nat.and_assoc, show 63 = 2 ^ 6 - 1 from rfl, Nat.and_two_pow_sub_one_eq_mod]
theorem and_lo (m : Int) (c : Nat) (hc : c < 64) : bits .and .i64 m (c : Int) = (((m % 64).toNat &&& c : Nat) : Int) := by
  have hle : ((m % 64).toNat &&& c) ≤ c := Nat.and_le_right
  show IntKind.i64.wrap (((BitVec.ofInt 64 m &&& BitVec.ofInt 64 (c : Int)).toNat : Nat) : Int) = _
  rw [BitVec.toNat_and, toNat_ofInt64, toNat_ofInt64, show ((c : Int) % 18446744073709551616).toNat = c by omega, and_low _ _ hc,
    show (m % 18446744073709551616).toNat % 64 = (m % 64).toNat by omega, IntKind.wrap_i64]
  omega
theorem or_lo (a c : Nat) (ha : a < 64) (hc : c < 64) : bits .or .i64 (a : Int) (c : Int) = ((a ||| c : Nat) : Int) :=
  (bits_nat .i64 6 (by decide) (fun n h0 h1 => by rw [IntKind.wrap_i64]; omega) a c ha hc).2
theorem andNot_nat (x c : Nat) (hx : x < 18446744073709551616) (hc : c < 64) : x &&& (18446744073709551615 - c) = x / 64 * 64 + ((x % 64) &&& (63 - c)) := by
  have hle : ((x % 64) &&& (63 - c)) < 64 := Nat.lt_of_le_of_lt Nat.and_le_right (by omega)
  have e1 : x / 64 * 64 + ((x % 64) &&& (63 - c)) = 2 ^ 6 * (x / 64) + ((x % 64) &&& (63 - c)) := by omega
  have e2 : 18446744073709551615 - c = 2 ^ 6 * (2 ^ 58 - 1) + (63 - c) := by omega
  rw [e1, e2]
  apply Nat.eq_of_testBit_eq
  intro i
  have e3 : x = 2 ^ 6 * (x / 64) + x % 64 := by omega
  rw [Nat.testBit_and, Nat.testBit_two_pow_mul_add _ (show 63 - c < 2 ^ 6 by omega), Nat.testBit_two_pow_mul_add _ (show ((x % 64) &&& (63 - c)) < 2 ^ 6 from hle)]
  conv => lhs; rw [e3]
  rw [Nat.testBit_two_pow_mul_add _ (show x % 64 < 2 ^ 6 by omega)]
  by_cases hi : i < 6
  · simp [hi, Nat.testBit_and]
  · simp only [hi, if_false]
    rw [Nat.testBit_two_pow_sub_one]
    by_cases hj : i - 6 < 58
    · simp [hj]
    · have : (x / 64).testBit (i - 6) = false := Nat.testBit_lt_two_pow (Nat.lt_of_lt_of_le (show x / 64 < 2 ^ 58 by omega) (Nat.pow_le_pow_right (by omega) (by omega)))
      simp [this]
theorem andNot_lo (m : Int) (c : Nat) (h0 : -9223372036854775808 ≤ m) (h1 : m ≤ 9223372036854775807) (hc : c < 64) :
    bits .andNot .i64 m (c : Int) = m / 64 * 64 + (((m % 64).toNat &&& (63 - c) : Nat) : Int) := by
  have hle : ((m % 64).toNat &&& (63 - c)) ≤ 63 - c := Nat.and_le_right
  show IntKind.i64.wrap (((BitVec.ofInt 64 m &&& ~~~BitVec.ofInt 64 (c : Int)).toNat : Nat) : Int) = _
  rw [BitVec.toNat_and, BitVec.toNat_not, toNat_ofInt64, toNat_ofInt64, show ((c : Int) % 18446744073709551616).toNat = c by omega,
    show 2 ^ 64 - 1 - c = 18446744073709551615 - c by omega, andNot_nat _ _ (by omega) hc,
    show (m % 18446744073709551616).toNat % 64 = (m % 64).toNat by omega, IntKind.wrap_i64]
  omega
end Go.Proofs.YtbpgoopmfofcnaaDoor
