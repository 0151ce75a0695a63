/-
  WHAT IS OF NO PROGRAM: a set of descriptors as two words, its members as a list; what and, or, and-not, one bit more and one bit less do to the members.
-/
import Derived.Laws.BitsAllLaws
namespace Go.Proofs.YthpinbngggcgcaaDoor

/-- Word x has bit i. -/
def hasB (a b n : Nat) : Bool := if n < 32 then a.testBit n else b.testBit (n - 32)
/-- Is any int in the set? -/
def hasI (a b : Nat) (n : Int) : Bool := decide (0 ≤ n ∧ n < 64) && hasB a b n.toNat
/-- The members, rising. -/
def mem (a b : Nat) : List Nat := (List.range 64).filter (hasB a b)
/-- The members as ints. -/
def memI (a b : Nat) : List Int := (mem a b).map (fun n : Nat => (n : Int))

/-- One bit. -/
def bitN (n : Nat) : Nat := 2 ^ (n % 32)
theorem bitN_lt (n : Nat) : bitN n < 4294967296 := by
  unfold bitN
  exact Nat.lt_of_lt_of_le (Nat.pow_lt_pow_right (by omega) (Nat.mod_lt n (by omega))) (by decide)
theorem bitN_pos (n : Nat) : 0 < bitN n := Nat.two_pow_pos _

theorem testBit_andNot (x y i : Nat) (hi : i < 32) (hy : y < 4294967296) : (x &&& (4294967295 - y)).testBit i = (x.testBit i && !y.testBit i) := by
  rw [Nat.testBit_and, show (4294967295 - y) = 2 ^ 32 - (y + 1) from by omega, Nat.testBit_two_pow_sub_succ (by omega)]
  simp [hi]

theorem hasB_and (a b c d n : Nat) : hasB (a &&& c) (b &&& d) n = (hasB a b n && hasB c d n) := by
  unfold hasB; split <;> rw [Nat.testBit_and]
theorem hasB_or (a b c d n : Nat) : hasB (a ||| c) (b ||| d) n = (hasB a b n || hasB c d n) := by
  unfold hasB; split <;> rw [Nat.testBit_or]
theorem hasB_less (a b c d n : Nat) (hc : c < 4294967296) (hd : d < 4294967296) (hn : n < 64) : hasB (a &&& (4294967295 - c)) (b &&& (4294967295 - d)) n = (hasB a b n && !hasB c d n) := by
  unfold hasB
  split
  · exact testBit_andNot _ _ _ (by omega) hc
  · exact testBit_andNot _ _ _ (by omega) hd

theorem testBit_bitN (m n : Nat) (hn : n < 32) : (bitN m).testBit n = decide (m % 32 = n) := by
  unfold bitN; exact Nat.testBit_two_pow

/-- A word and a bit: the test that the code makes. -/
theorem and_bitN (x n : Nat) : (x &&& bitN n = 0) = (x.testBit (n % 32) = false) := by
  unfold bitN
  rw [Go.nat_bit, Nat.testBit_eq_decide_div_mod_eq]
  have h2 : x / 2 ^ (n % 32) % 2 < 2 := Nat.mod_lt _ (by omega)
  have hp : 0 < 2 ^ (n % 32) := Nat.two_pow_pos _
  apply propext
  constructor
  · intro h
    rcases Nat.mul_eq_zero.1 h with h | h
    · simp [h]
    · omega
  · intro h
    have h' : ¬ x / 2 ^ (n % 32) % 2 = 1 := by simpa using h
    have : x / 2 ^ (n % 32) % 2 = 0 := by omega
    rw [this, Nat.zero_mul]

/-- The words of the set with one more. -/
def w0 (a n : Nat) : Nat := if n < 32 then a ||| bitN n else a
def w1 (b n : Nat) : Nat := if n < 32 then b else b ||| bitN n
/-- The words of the set with one less. -/
def o0 (a n : Nat) : Nat := if n < 32 then a &&& (4294967295 - bitN n) else a
def o1 (b n : Nat) : Nat := if n < 32 then b else b &&& (4294967295 - bitN n)

theorem hasB_with (a b n k : Nat) (hn : n < 64) (hk : k < 64) : hasB (w0 a n) (w1 b n) k = (hasB a b k || decide (k = n)) := by
  unfold hasB w0 w1
  by_cases h1 : k < 32 <;> by_cases h2 : n < 32
  · simp only [h1, h2, if_true, Nat.testBit_or, testBit_bitN _ _ h1]; rw [decide_eq_decide.2 (show n % 32 = k ↔ k = n by omega)]
  · have : ¬ k = n := by omega
    simp [h1, h2, this]
  · have : ¬ k = n := by omega
    simp [h1, h2, this]
  · simp only [h1, h2, if_false, Nat.testBit_or, testBit_bitN _ _ (show k - 32 < 32 by omega)]; rw [decide_eq_decide.2 (show n % 32 = k - 32 ↔ k = n by omega)]
theorem hasB_without (a b n k : Nat) (hn : n < 64) (hk : k < 64) : hasB (o0 a n) (o1 b n) k = (hasB a b k && !decide (k = n)) := by
  have hb := bitN_lt n
  unfold hasB o0 o1
  by_cases h1 : k < 32 <;> by_cases h2 : n < 32
  · simp only [h1, h2, if_true, testBit_andNot _ _ _ h1 hb, testBit_bitN _ _ h1]; rw [decide_eq_decide.2 (show n % 32 = k ↔ k = n by omega)]
  · have : ¬ k = n := by omega
    simp [h1, h2, this]
  · have : ¬ k = n := by omega
    simp [h1, h2, this]
  · simp only [h1, h2, if_false, testBit_andNot _ _ _ (show k - 32 < 32 by omega) hb, testBit_bitN _ _ (show k - 32 < 32 by omega)]; rw [decide_eq_decide.2 (show n % 32 = k - 32 ↔ k = n by omega)]

theorem or_lt {x y : Nat} (hx : x < 4294967296) (hy : y < 4294967296) : x ||| y < 4294967296 := Nat.or_lt_two_pow (n := 32) hx hy
theorem and_lt {x : Nat} (y : Nat) (hx : x < 4294967296) : x &&& y < 4294967296 := Nat.lt_of_le_of_lt Nat.and_le_left hx
theorem w0_lt {a : Nat} (n : Nat) (h : a < 4294967296) : w0 a n < 4294967296 := by unfold w0; split; exact or_lt h (bitN_lt n); exact h
theorem w1_lt {a : Nat} (n : Nat) (h : a < 4294967296) : w1 a n < 4294967296 := by unfold w1; split; exact h; exact or_lt h (bitN_lt n)
theorem o0_lt {a : Nat} (n : Nat) (h : a < 4294967296) : o0 a n < 4294967296 := by unfold o0; split; exact and_lt _ h; exact h
theorem o1_lt {a : Nat} (n : Nat) (h : a < 4294967296) : o1 a n < 4294967296 := by unfold o1; split; exact h; exact and_lt _ h

theorem mem_mem (a b n : Nat) : n ∈ mem a b ↔ n < 64 ∧ hasB a b n = true := by simp [mem]
theorem mem_memI (a b : Nat) (n : Int) : n ∈ memI a b ↔ 0 ≤ n ∧ n < 64 ∧ hasB a b n.toNat = true := by
  unfold memI
  rw [List.mem_map]
  constructor
  · rintro ⟨k, hk, rfl⟩
    have := (mem_mem a b k).1 hk
    exact ⟨by omega, by omega, by simpa using this.2⟩
  · rintro ⟨h1, h2, h3⟩
    exact ⟨n.toNat, (mem_mem a b _).2 ⟨by omega, h3⟩, by omega⟩
theorem length_memI (a b : Nat) : (memI a b).length ≤ 64 := by
  unfold memI mem
  rw [List.length_map]
  exact Nat.le_trans (List.length_filter_le _ _) (by simp)

/-- The first k numbers that pass a test, as ints: what a loop from 0 on that appends has gathered. -/
def upTo (p : Nat → Bool) (k : Nat) : List Int := ((List.range k).filter p).map (fun n : Nat => (n : Int))
theorem upTo_hit (p : Nat → Bool) (k : Nat) (h : p k = true) : upTo p (k + 1) = upTo p k ++ [(k : Int)] := by
  simp [upTo, List.range_succ, List.filter_append, h]
theorem upTo_miss (p : Nat → Bool) (k : Nat) (h : p k = false) : upTo p (k + 1) = upTo p k := by
  simp [upTo, List.range_succ, List.filter_append, h]
theorem upTo_le (p : Nat → Bool) (k : Nat) : (upTo p k).length ≤ k := by
  unfold upTo
  rw [List.length_map]
  exact Nat.le_trans (List.length_filter_le _ _) (by simp)
theorem upTo_congr (p q : Nat → Bool) (k : Nat) (h : ∀ n, n < k → p n = q n) : upTo p k = upTo q k := by
  unfold upTo
  rw [List.filter_congr fun n hn => h n (by simpa using hn)]
theorem memI_upTo (a b : Nat) : memI a b = upTo (hasB a b) 64 := rfl

/-- Is it among these ints? -/
def inB (n : Int) (l : List Int) : Bool := decide (n ∈ l)
theorem inB_memI (a b n : Nat) (hn : n < 64) : inB (n : Int) (memI a b) = hasB a b n := by
  unfold inB
  rw [Bool.eq_iff_iff]
  simp only [decide_eq_true_eq, mem_memI]
  simp; omega

end Go.Proofs.YthpinbngggcgcaaDoor
