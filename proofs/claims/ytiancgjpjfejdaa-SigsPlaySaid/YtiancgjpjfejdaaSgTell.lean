/-
  What calls do to one signal's handling and count; how often a list of pairs tells a signal.
-/
import Derived.Test.YtiancgjpjfejdaaSgPure
namespace Go.Proofs.Ytiancgjpjfejdaa

/-- How often a signal is told in a list of pairs. -/
def tell (l : List (Nat × Nat)) (i : Nat) : Nat := ((l.filter fun x => x.1 == i).map (·.2)).sum
theorem tell_nil (i : Nat) : tell [] i = 0 := rfl
theorem tell_append (a b : List (Nat × Nat)) (i : Nat) : tell (a ++ b) i = tell a i + tell b i := by simp [tell]
theorem tell_one (x : Nat × Nat) (i : Nat) : tell [x] i = if x.1 = i then x.2 else 0 := by
  unfold tell
  by_cases h : x.1 = i <;> simp [h]
theorem tell_far (s : T) {i : Nat} : ∀ k, k ≤ i → tell (s.pend k) i = 0
  | 0, _ => rfl
  | k + 1, h => by
    rw [T.pend_succ]
    split
    · exact tell_far s k (by omega)
    · rw [tell_append, tell_one, tell_far s k (by omega)]
      simp
      omega
theorem tell_pend (s : T) {i : Nat} : ∀ k, i < k → tell (s.pend k) i = s.c i
  | k + 1, h => by
    rw [T.pend_succ]
    by_cases e : i = k
    · subst e
      split
      · rename_i h0; rw [tell_far s i (Nat.le_refl _), h0]
      · rw [tell_append, tell_one, tell_far s i (Nat.le_refl _)]; simp
    · have ih := tell_pend s k (show i < k by omega)
      split
      · exact ih
      · rw [tell_append, tell_one, ih, if_neg (by simp; omega)]; omega
theorem tell_take {l : List (Nat × Nat)} {j : Nat} {x : Nat × Nat} (h : l[j]? = some x) (i : Nat) : tell (l.take (j + 1)) i = tell (l.take j) i + if x.1 = i then x.2 else 0 := by
  rw [List.take_add_one, h, tell_append]
  show _ + tell [x] i = _
  rw [tell_one]
theorem tell_le (l : List (Nat × Nat)) (j i : Nat) : tell (l.take j) i ≤ tell l i := by
  conv => rhs; rw [← List.take_append_drop j l, tell_append]
  omega

section
variable {s : T} {i : Nat} {n : Int}
theorem on_h (s : T) (n : Int) (h : s.h i = true) : (s.handle n true).h i = true := by
  unfold T.handle
  split
  · show upd s.h n.toNat true i = true
    unfold upd
    split
    · rfl
    · exact h
  · exact h
theorem on_c (s : T) (n : Int) (i : Nat) : (s.handle n true).c i = s.c i := by
  unfold T.handle
  split <;> rfl
theorem far_set (s : T) {j : Nat} (hj : j ≠ i) (on : Bool) : (s.set j on).h i = s.h i ∧ (s.set j on).c i = s.c i := by
  refine ⟨upd_other _ _ (fun e => hj e.symm), ?_⟩
  unfold T.set
  cases on
  · exact upd_other _ _ (fun e => hj e.symm)
  · rfl
theorem far_raise (s : T) {j : Nat} (hj : j ≠ i) : (s.raise j).h i = s.h i ∧ (s.raise j).c i = s.c i := by
  unfold T.raise
  split
  · exact ⟨rfl, upd_other _ _ (fun e => hj e.symm)⟩
  · exact ⟨rfl, rfl⟩
theorem far_handle (s : T) (hn : n ≠ (i : Int)) (on : Bool) : (s.handle n on).h i = s.h i ∧ (s.handle n on).c i = s.c i := by
  unfold T.handle
  split
  · rename_i h
    obtain ⟨j, rfl, _, _⟩ := isSig_nat h
    exact far_set s (by omega) on
  · exact ⟨rfl, rfl⟩
theorem far_rise (s : T) (hn : n ≠ (i : Int)) : (s.rise n).h i = s.h i ∧ (s.rise n).c i = s.c i := by
  unfold T.rise
  split
  · rename_i h
    obtain ⟨j, rfl, _, _⟩ := isSig_nat h
    exact far_raise s (by omega)
  · exact ⟨rfl, rfl⟩
theorem rise_h (s : T) (n : Int) (j : Nat) : (s.rise n).h j = s.h j := by
  unfold T.rise T.raise
  split
  · split <;> rfl
  · rfl
theorem rise_own (s : T) (h1 : 1 ≤ i) (h2 : i ≤ 31) (h : s.h i = true) : (s.rise (i : Int)).c i = s.c i + 1 := by
  have e1 : isSig (i : Int) = true := isSig_yes.2 (by omega)
  unfold T.rise
  rw [e1]
  show (s.raise i).c i = _
  unfold T.raise
  rw [h]
  exact upd_same _ _ _
end
end Go.Proofs.Ytiancgjpjfejdaa
