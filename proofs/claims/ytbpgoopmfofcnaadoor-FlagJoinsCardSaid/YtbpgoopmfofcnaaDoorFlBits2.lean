/-
  More of bits: which masks have none but the four lowest; two together.
-/
import Derived.Test.YtbpgoopmfofcnaaDoorFlBits
namespace Go.Proofs.YtbpgoopmfofcnaaDoor

theorem and48 : ∀ q : Fin 64, ((q.val &&& 48 : Nat) = 0 ↔ q.val < 16) := by decide +kernel
theorem andNot15 (m : Int) (h0 : -9223372036854775808 ≤ m) (h1 : m ≤ 9223372036854775807) : bits .andNot .i64 m 15 = 0 ↔ 0 ≤ m ∧ m ≤ 15 := by
  have e : bits .andNot .i64 m 15 = m / 64 * 64 + (((m % 64).toNat &&& (63 - 15) : Nat) : Int) := andNot_lo m 15 h0 h1 (by omega)
  have q := and48 ⟨(m % 64).toNat, by omega⟩
  simp only at q
  rw [e]
  have hle : ((m % 64).toNat &&& 48) ≤ 48 := Nat.and_le_right
  constructor
  · intro h
    have h2 : (m % 64).toNat &&& 48 = 0 := by simp only [Nat.reduceSub] at h; omega
    have := q.1 h2
    rw [show (63 - 15 : Nat) = 48 from rfl, h2] at h
    omega
  · intro h
    have h2 := q.2 (by omega)
    rw [show (63 - 15 : Nat) = 48 from rfl, h2]
    omega
theorem or_bounds (n a : Int) : -9223372036854775808 ≤ bits .or .i64 n a ∧ bits .or .i64 n a ≤ 9223372036854775807 := by
  show -9223372036854775808 ≤ IntKind.i64.wrap _ ∧ IntKind.i64.wrap _ ≤ 9223372036854775807
  rw [IntKind.wrap_i64]
  omega
theorem or_small (n a : Int) (hn0 : -9223372036854775808 ≤ n) (hn1 : n ≤ 9223372036854775807) (ha0 : -9223372036854775808 ≤ a) (ha1 : a ≤ 9223372036854775807) :
    (0 ≤ bits .or .i64 n a ∧ bits .or .i64 n a ≤ 15) ↔ (0 ≤ n ∧ n ≤ 15 ∧ 0 ≤ a ∧ a ≤ 15) := by
  have e : bits .or .i64 n a = IntKind.i64.wrap ((((n % 18446744073709551616).toNat ||| (a % 18446744073709551616).toNat : Nat)) : Int) := by
    show IntKind.i64.wrap (((BitVec.ofInt 64 n ||| BitVec.ofInt 64 a).toNat : Nat) : Int) = _
    rw [BitVec.toNat_or, toNat_ofInt64, toNat_ofInt64]
  rw [e, IntKind.wrap_i64]
  obtain ⟨x, hx⟩ : ∃ x, (n % 18446744073709551616).toNat = x := ⟨_, rfl⟩
  obtain ⟨y, hy⟩ : ∃ y, (a % 18446744073709551616).toNat = y := ⟨_, rfl⟩
  rw [hx, hy]
  have hlt : x ||| y < 2 ^ 64 := Nat.or_lt_two_pow (by omega) (by omega)
  have l1 : x ≤ x ||| y := Nat.left_le_or
  have l2 : y ≤ x ||| y := Nat.right_le_or
  constructor
  · intro h
    omega
  · intro h
    have : x ||| y < 2 ^ 4 := Nat.or_lt_two_pow (by omega) (by omega)
    omega
theorem asked (n a : Int) (hn0 : -9223372036854775808 ≤ n) (hn1 : n ≤ 9223372036854775807) (ha0 : -9223372036854775808 ≤ a) (ha1 : a ≤ 9223372036854775807) :
    bits .andNot .i64 (bits .or .i64 n a) 15 = 0 ↔ (0 ≤ n ∧ n ≤ 15 ∧ 0 ≤ a ∧ a ≤ 15) := by
  rw [andNot15 _ (or_bounds n a).1 (or_bounds n a).2, or_small n a hn0 hn1 ha0 ha1]
end Go.Proofs.YtbpgoopmfofcnaaDoor
