/-
  The laws of one descriptor more and one less, in words.
-/
import Derived.Test.YthpinbngggcgcaaDoorAlive
import Derived.Test.YthpinbngggcgcaaDoorFof
namespace Go.Proofs.YthpinbngggcgcaaDoor

theorem hasB_zero (k : Nat) : hasB 0 0 k = false := by unfold hasB; split <;> simp
theorem bnd : (0 : Nat) < 4294967296 := by omega
/-- The set of one. -/
theorem wordsOf_one (n x y : Nat) (hn : n < 64) (h : WordsOf [(n : Int)] x y) : x = w0 0 n ∧ y = w1 0 n := by
  refine words_ext _ _ _ _ h.1 h.2.1 (w0_lt n bnd) (w1_lt n bnd) fun k hk => ?_
  have h2 := (wordsOf_nil.more hn).2.2 k hk
  rw [h.2.2 k hk, h2]
  simp
theorem law_twice (a b n : Nat) (ha : a < 4294967296) (hb : b < 4294967296) (hn : n < 64) : w0 (w0 a n) n = w0 a n ∧ w1 (w1 b n) n = w1 b n := by
  refine words_ext _ _ _ _ (w0_lt n (w0_lt n ha)) (w1_lt n (w1_lt n hb)) (w0_lt n ha) (w1_lt n hb) fun k hk => ?_
  rw [hasB_with _ _ _ _ hn hk, hasB_with _ _ _ _ hn hk]
  cases hasB a b k <;> simp
theorem law_less_less (a b n : Nat) (ha : a < 4294967296) (hb : b < 4294967296) (hn : n < 64) : o0 (o0 a n) n = o0 a n ∧ o1 (o1 b n) n = o1 b n := by
  refine words_ext _ _ _ _ (o0_lt n (o0_lt n ha)) (o1_lt n (o1_lt n hb)) (o0_lt n ha) (o1_lt n hb) fun k hk => ?_
  rw [hasB_without _ _ _ _ hn hk, hasB_without _ _ _ _ hn hk]
  cases hasB a b k <;> simp
theorem law_more_less (a b n : Nat) (ha : a < 4294967296) (hb : b < 4294967296) (hn : n < 64) : o0 (w0 a n) n = o0 a n ∧ o1 (w1 b n) n = o1 b n := by
  refine words_ext _ _ _ _ (o0_lt n (w0_lt n ha)) (o1_lt n (w1_lt n hb)) (o0_lt n ha) (o1_lt n hb) fun k hk => ?_
  rw [hasB_without _ _ _ _ hn hk, hasB_without _ _ _ _ hn hk, hasB_with _ _ _ _ hn hk]
  cases hasB a b k <;> cases decide (k = n) <;> rfl
theorem law_or_one (a b n : Nat) (ha : a < 4294967296) (hb : b < 4294967296) (hn : n < 64) : a ||| w0 0 n = w0 a n ∧ b ||| w1 0 n = w1 b n := by
  refine words_ext _ _ _ _ (or_lt ha (w0_lt n bnd)) (or_lt hb (w1_lt n bnd)) (w0_lt n ha) (w1_lt n hb) fun k hk => ?_
  rw [hasB_or, hasB_with _ _ _ _ hn hk, hasB_with _ _ _ _ hn hk, hasB_zero]
  simp
theorem law_less_one (a b n : Nat) (ha : a < 4294967296) (hb : b < 4294967296) (hn : n < 64) : a &&& (4294967295 - w0 0 n) = o0 a n ∧ b &&& (4294967295 - w1 0 n) = o1 b n := by
  refine words_ext _ _ _ _ (and_lt _ ha) (and_lt _ hb) (o0_lt n ha) (o1_lt n hb) fun k hk => ?_
  rw [hasB_less _ _ _ _ _ (w0_lt n bnd) (w1_lt n bnd) hk, hasB_without _ _ _ _ hn hk, hasB_with _ _ _ _ hn hk, hasB_zero]
  simp
theorem more_has (a b n : Nat) (hn : n < 64) : hasB (w0 a n) (w1 b n) n = true := by rw [hasB_with _ _ _ _ hn hn]; simp
theorem less_has (a b n : Nat) (hn : n < 64) : hasB (o0 a n) (o1 b n) n = false := by rw [hasB_without _ _ _ _ hn hn]; simp
theorem more_other (a b n k : Nat) (hn : n < 64) (hk : k < 64) (h : k ≠ n) : hasB (w0 a n) (w1 b n) k = hasB a b k := by rw [hasB_with _ _ _ _ hn hk]; simp [h]
theorem less_other (a b n k : Nat) (hn : n < 64) (hk : k < 64) (h : k ≠ n) : hasB (o0 a n) (o1 b n) k = hasB a b k := by rw [hasB_without _ _ _ _ hn hk]; simp [h]
end Go.Proofs.YthpinbngggcgcaaDoor
