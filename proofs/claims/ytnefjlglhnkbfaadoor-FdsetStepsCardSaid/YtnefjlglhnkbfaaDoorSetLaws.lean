/-
  The laws of two sets, in words; and how many there are.
-/
import Derived.Test.YtnefjlglhnkbfaaDoorAlive
namespace Go.Proofs.YtnefjlglhnkbfaaDoor

/-- All of a word's bits but these. -/
theorem testBit_not (x i : Nat) (hx : x < 4294967296) (hi : i < 32) : (4294967295 - x).testBit i = !x.testBit i := by
  rw [show 4294967295 - x = 2 ^ 32 - (x + 1) from by omega, Nat.testBit_two_pow_sub_succ (by simpa using hx)]
  simp [hi]
theorem not_lt (x : Nat) : 4294967295 - x < 4294967296 := by omega

theorem law_parts (a c : Nat) (ha : a < 4294967296) (hc : c < 4294967296) : (a &&& c ||| a &&& (4294967295 - c)) ||| c &&& (4294967295 - a) = a ||| c := by
  refine word_ext _ _ (or_lt (or_lt (and_lt _ ha) (and_lt _ ha)) (and_lt _ hc)) (or_lt ha hc) fun i hi => ?_
  simp only [Nat.testBit_or, Nat.testBit_and, testBit_not _ _ ha hi, testBit_not _ _ hc hi]
  cases a.testBit i <;> cases c.testBit i <;> rfl
theorem law_back (a c : Nat) (ha : a < 4294967296) (hc : c < 4294967296) : a &&& c ||| a &&& (4294967295 - c) = a := by
  refine word_ext _ _ (or_lt (and_lt _ ha) (and_lt _ ha)) ha fun i hi => ?_
  simp only [Nat.testBit_or, Nat.testBit_and, testBit_not _ _ hc hi]
  cases a.testBit i <;> cases c.testBit i <;> rfl
theorem law_one (a c : Nat) (ha : a < 4294967296) (hc : c < 4294967296) : (a &&& c) &&& (a &&& (4294967295 - c)) = 0 := by
  refine word_ext _ _ (and_lt _ (and_lt _ ha)) (by omega) fun i hi => ?_
  simp only [Nat.testBit_and, testBit_not _ _ hc hi, Nat.zero_testBit]
  cases a.testBit i <;> cases c.testBit i <;> rfl
theorem law_other (a c : Nat) (ha : a < 4294967296) : (a &&& c) &&& (c &&& (4294967295 - a)) = 0 := by
  refine word_ext _ _ (and_lt _ (and_lt _ ha)) (by omega) fun i hi => ?_
  simp only [Nat.testBit_and, testBit_not _ _ ha hi, Nat.zero_testBit]
  cases a.testBit i <;> cases c.testBit i <;> rfl
theorem law_apart (a c : Nat) (ha : a < 4294967296) (hc : c < 4294967296) : (a &&& (4294967295 - c)) &&& (c &&& (4294967295 - a)) = 0 := by
  refine word_ext _ _ (and_lt _ (and_lt _ ha)) (by omega) fun i hi => ?_
  simp only [Nat.testBit_and, testBit_not _ _ ha hi, testBit_not _ _ hc hi, Nat.zero_testBit]
  cases a.testBit i <;> cases c.testBit i <;> rfl

theorem ones_parts (a c : Nat) (ha : a < 4294967296) (hc : c < 4294967296) : ones (a &&& c) + ones (a &&& (4294967295 - c)) + ones (c &&& (4294967295 - a)) = ones (a ||| c) := by
  unfold ones
  rw [← length_bits, ← length_bits, ← length_bits, ← length_bits]
  refine count_parts _ _ _ _ _ fun i hi => ?_
  have hi : i < 32 := by simpa using hi
  simp only [Nat.testBit_or, Nat.testBit_and, testBit_not _ _ ha hi, testBit_not _ _ hc hi]
  cases a.testBit i <;> cases c.testBit i <;> rfl
theorem ones_two (a c : Nat) : ones (a ||| c) + ones (a &&& c) = ones a + ones c := by
  unfold ones
  rw [← length_bits, ← length_bits, ← length_bits, ← length_bits]
  refine count_two _ _ _ _ _ fun i hi => ?_
  simp only [Nat.testBit_or, Nat.testBit_and]
  cases a.testBit i <;> cases c.testBit i <;> rfl
theorem ones_less (a c : Nat) (hc : c < 4294967296) : ones (a &&& c) + ones (a &&& (4294967295 - c)) = ones a + ones 0 := by
  unfold ones
  rw [← length_bits, ← length_bits, ← length_bits, ← length_bits]
  refine count_two _ _ _ _ _ fun i hi => ?_
  have hi : i < 32 := by simpa using hi
  simp only [Nat.testBit_and, testBit_not _ _ hc hi, Nat.zero_testBit]
  cases a.testBit i <;> cases c.testBit i <;> rfl
theorem ones_zero : ones 0 = 0 := popAux_zero 32

theorem len_parts (a b c d : Nat) (ha : a < 4294967296) (hb : b < 4294967296) (hc : c < 4294967296) (hd : d < 4294967296) :
    (memI (a &&& c) (b &&& d)).length + (memI (a &&& (4294967295 - c)) (b &&& (4294967295 - d))).length + (memI (c &&& (4294967295 - a)) (d &&& (4294967295 - b))).length = (memI (a ||| c) (b ||| d)).length := by
  have h1 := ones_parts a c ha hc
  have h2 := ones_parts b d hb hd
  simp only [length_memI_ones]
  omega
theorem len_two (a b c d : Nat) : (memI (a ||| c) (b ||| d)).length + (memI (a &&& c) (b &&& d)).length = (memI a b).length + (memI c d).length := by
  have h1 := ones_two a c
  have h2 := ones_two b d
  simp only [length_memI_ones]
  omega
theorem len_less (a b c d : Nat) (hc : c < 4294967296) (hd : d < 4294967296) : (memI (a &&& c) (b &&& d)).length + (memI (a &&& (4294967295 - c)) (b &&& (4294967295 - d))).length = (memI a b).length := by
  have h1 := ones_less a c hc
  have h2 := ones_less b d hd
  have h0 := ones_zero
  simp only [length_memI_ones]
  omega
end Go.Proofs.YtnefjlglhnkbfaaDoor
