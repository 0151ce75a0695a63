/-
  WHAT IS OF NO PROGRAM: how many bits a word has; how many members a set has; the lowest and the highest bit of a word.
-/
import Derived.Test.YthpinbngggcgcaaDoorPlain
import Derived.Lib.BitFns
import Derived.Lib.TrailingZeros
namespace Go.Proofs.YthpinbngggcgcaaDoor

theorem popAux_split (j : Nat) : ∀ k x : Nat, Lib.popAux (j + k) x = Lib.popAux j x + Lib.popAux k (x / 2 ^ j) := by
  induction j with
  | zero => intro k x; simp [Lib.popAux]
  | succ j ih =>
    intro k x
    rw [show j + 1 + k = (j + k) + 1 from by omega]
    simp only [Lib.popAux]
    rw [ih, Nat.div_div_eq_div_mul, show 2 * 2 ^ j = 2 ^ (j + 1) from by rw [Nat.pow_succ]; omega]
    omega
theorem popAux_zero (k : Nat) : Lib.popAux k 0 = 0 := by
  induction k with
  | zero => rfl
  | succ k ih => simp only [Lib.popAux]; rw [show (0 : Nat) / 2 = 0 from rfl, ih]
theorem popAux_mod (j : Nat) : ∀ x : Nat, Lib.popAux j (x % 2 ^ j) = Lib.popAux j x := by
  induction j with
  | zero => intro x; rfl
  | succ j ih =>
    intro x
    simp only [Lib.popAux]
    have h1 : x % 2 ^ (j + 1) % 2 = x % 2 := Nat.mod_mod_of_dvd _ ⟨2 ^ j, by rw [Nat.pow_succ]; omega⟩
    have h2 : x % 2 ^ (j + 1) / 2 = x / 2 % 2 ^ j := by
      rw [Nat.pow_succ, Nat.mul_comm]
      exact Nat.mod_mul_right_div_self _ _ _
    rw [h1, h2, ih]
/-- How many bits a word has. -/
def ones (x : Nat) : Nat := Lib.popAux 32 x
theorem ones_byte (b : Nat) (h : b < 256) : Lib.onesCount b = Lib.popAux 8 b := by
  unfold Lib.onesCount
  rw [show (64 : Nat) = 8 + 56 from rfl, popAux_split 8 56 b, Nat.div_eq_of_lt (by simpa using h), popAux_zero]
  omega
theorem ones_bytes (x : Nat) (hx : x < 4294967296) : Lib.onesCount (x / 16777216) + Lib.onesCount (x / 65536 % 256) + Lib.onesCount (x / 256 % 256) + Lib.onesCount (x % 256) = ones x := by
  unfold ones
  rw [ones_byte _ (by omega), ones_byte _ (by omega), ones_byte _ (by omega), ones_byte _ (by omega)]
  rw [show (32 : Nat) = 8 + (8 + (8 + 8)) from rfl, popAux_split 8 (8 + (8 + 8)), popAux_split 8 (8 + 8), popAux_split 8 8]
  have m := fun y => popAux_mod 8 y
  simp only [Nat.reducePow] at m ⊢
  rw [Nat.div_div_eq_div_mul, Nat.div_div_eq_div_mul, m, m, m]
  simp only [Nat.reduceMul]
  omega
theorem pop8_nat (b : Nat) (h : b < 256) : Lib.pop8 (b : Int) = (Lib.popAux 8 b : Int) := by
  have := Lib.pop8_eq ⟨b, h⟩
  simp only at this
  rw [this, ones_byte b h]
theorem popAux_le (k : Nat) : ∀ x, Lib.popAux k x ≤ k := by
  induction k with
  | zero => intro x; simp [Lib.popAux]
  | succ k ih => intro x; simp only [Lib.popAux]; have := ih (x / 2); omega

theorem length_bits (k : Nat) : ∀ x : Nat, ((List.range k).filter (fun i => x.testBit i)).length = Lib.popAux k x := by
  induction k with
  | zero => intro x; rfl
  | succ k ih =>
    intro x
    rw [List.range_succ_eq_map, List.filter_cons, List.filter_map, Lib.popAux]
    have h2 := ih (x / 2)
    have e : ((fun i => x.testBit i) ∘ Nat.succ) = (fun i => (x / 2).testBit i) := by
      funext i
      simp [Nat.testBit_succ]
    rw [e]
    have h0 : x.testBit 0 = decide (x % 2 = 1) := by simp
    rw [h0]
    by_cases h : x % 2 = 1
    · simp [h, h2]; omega
    · have : x % 2 = 0 := by omega
      simp [this, h2]
theorem range64 : List.range 64 = List.range 32 ++ (List.range 32).map (· + 32) := by decide
theorem length_mem (a b : Nat) : (mem a b).length = ones a + ones b := by
  unfold mem ones
  rw [range64, List.filter_append, List.length_append, List.filter_map, List.length_map, ← length_bits, ← length_bits]
  have e1 : (List.range 32).filter (hasB a b) = (List.range 32).filter (fun i => a.testBit i) := List.filter_congr fun n hn => by
    have : n < 32 := by simpa using hn
    simp [hasB, this]
  have e2 : (List.range 32).filter (hasB a b ∘ fun x => x + 32) = (List.range 32).filter (fun i => b.testBit i) := List.filter_congr fun n hn => by
    have : ¬ n + 32 < 32 := by omega
    simp [hasB, this]
  rw [e1, e2]
theorem length_memI_ones (a b : Nat) : (memI a b).length = ones a + ones b := by
  unfold memI; rw [List.length_map, length_mem]

/-- Counting: three tests that are apart and together are a fourth. -/
theorem count_parts {α : Type} (p q r s : α → Bool) : ∀ l : List α, (∀ x ∈ l, (p x).toNat + (q x).toNat + (r x).toNat = (s x).toNat) → (l.filter p).length + (l.filter q).length + (l.filter r).length = (l.filter s).length
  | [], _ => rfl
  | x :: l, h => by
    have ih := count_parts p q r s l fun y hy => h y (List.mem_cons_of_mem _ hy)
    have hx := h x (List.mem_cons_self ..)
    simp only [List.filter_cons]
    cases hp : p x <;> cases hq : q x <;> cases hr : r x <;> cases hs : s x <;> simp_all <;> omega
theorem count_two {α : Type} (p q r s : α → Bool) : ∀ l : List α, (∀ x ∈ l, (p x).toNat + (q x).toNat = (r x).toNat + (s x).toNat) → (l.filter p).length + (l.filter q).length = (l.filter r).length + (l.filter s).length
  | [], _ => rfl
  | x :: l, h => by
    have ih := count_two p q r s l fun y hy => h y (List.mem_cons_of_mem _ hy)
    have hx := h x (List.mem_cons_self ..)
    simp only [List.filter_cons]
    cases hp : p x <;> cases hq : q x <;> cases hr : r x <;> cases hs : s x <;> simp_all <;> omega
end Go.Proofs.YthpinbngggcgcaaDoor
