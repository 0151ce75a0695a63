/-
  The numbers of runs, one behind the other: what stands where. Plain mathematics.
-/
import Derived.Test.YthpinbngggcgcaaDoorFtScan
namespace Go.Proofs.YthpinbngggcgcaaDoor

theorem rng_range (f t : Nat) (hft : f ≤ t) (ht : t < 64) : rng (f : Int) (t : Int) = (List.range' f (t - f + 1)).map fun (k : Nat) => (k : Int) := by
  unfold rng
  congr 1
  refine rising_ext _ _ (List.pairwise_lt_range.filter _) List.pairwise_lt_range' fun x => ?_
  rw [List.mem_filter, List.mem_range, List.mem_range'_1]
  simp only [Bool.and_eq_true, decide_eq_true_eq]
  omega
theorem rng_len (f t : Nat) (hft : f ≤ t) (ht : t < 64) : (rng (f : Int) (t : Int)).length = t - f + 1 := by rw [rng_range f t hft ht]; simp
theorem rng_get (f t d : Nat) (ht : t < 64) (hd : f + d ≤ t) : (rng (f : Int) (t : Int))[d]? = some ((f + d : Nat) : Int) := by
  rw [rng_range f t (by omega) ht, List.getElem?_map, List.getElem?_range' (by omega)]
  simp
theorem flat_app (p q : List (Nat × Nat)) : flatR (p ++ q) = flatR p ++ flatR q := by unfold flatR; rw [List.flatMap_append]
theorem flat_cons (x : Nat × Nat) (q : List (Nat × Nat)) : flatR (x :: q) = rng (x.1 : Int) (x.2 : Int) ++ flatR q := by unfold flatR; rw [List.flatMap_cons]
theorem flat_nil : flatR [] = [] := rfl
theorem flat_pos {p : List (Nat × Nat)} (h : ∀ x ∈ p, x.1 ≤ x.2 ∧ x.2 < 64) (hne : p ≠ []) : 0 < (flatR p).length := by
  cases p with
  | nil => exact absurd rfl hne
  | cons x p =>
    have hx := h x (List.mem_cons_self ..)
    rw [flat_cons, List.length_append, rng_len _ _ hx.1 hx.2]
    omega
/-- What stands d behind the beginning of a run. -/
theorem flat_at {pre post : List (Nat × Nat)} {f t d : Nat} (ht : t < 64) (hd : f + d ≤ t) : (flatR (pre ++ (f, t) :: post))[(flatR pre).length + d]? = some ((f + d : Nat) : Int) := by
  rw [flat_app, List.getElem?_append_right (by omega), show (flatR pre).length + d - (flatR pre).length = d by omega, flat_cons,
    List.getElem?_append_left (by rw [rng_len _ _ (show f ≤ t by omega) ht]; show d < t - f + 1; omega)]
  exact rng_get f t d ht hd
/-- What stands behind a run. -/
theorem flat_next {pre post : List (Nat × Nat)} {f t : Nat} (hft : f ≤ t) (ht : t < 64) (hg : Good (t + 2) post) :
    (post = [] ∧ (flatR (pre ++ (f, t) :: post)).length = (flatR pre).length + (t - f) + 1) ∨
    (∃ z : Nat, t + 2 ≤ z ∧ (flatR (pre ++ (f, t) :: post))[(flatR pre).length + (t - f) + 1]? = some (z : Int) ∧ (flatR pre).length + (t - f) + 1 < (flatR (pre ++ (f, t) :: post)).length) := by
  have hl := rng_len f t hft ht
  cases post with
  | nil =>
    left
    refine ⟨rfl, ?_⟩
    rw [flat_app, flat_cons, flat_nil, List.append_nil, List.length_append, hl]
    omega
  | cons y post =>
    right
    obtain ⟨g1, g2, g3, _⟩ := hg
    have e : (flatR (pre ++ (f, t) :: y :: post))[(flatR pre).length + (t - f) + 1]? = some ((y.1 : Nat) : Int) := by
      rw [flat_app, List.getElem?_append_right (by omega), show (flatR pre).length + (t - f) + 1 - (flatR pre).length = t - f + 1 by omega, flat_cons,
        List.getElem?_append_right (by rw [hl]; omega), hl, Nat.sub_self, flat_cons,
        List.getElem?_append_left (by rw [rng_len _ _ g2 g3]; omega)]
      have := rng_get y.1 y.2 0 g3 (by omega)
      simpa using this
    exact ⟨y.1, g1, e, (List.getElem?_eq_some_iff.1 e).1⟩
theorem textR_one (x : Nat × Nat) : textR [x] = runB x.1 x.2 := by unfold textR; simp [joinC]
theorem textR_snoc (pre : List (Nat × Nat)) (x : Nat × Nat) (h : pre ≠ []) : textR (pre ++ [x]) = textR pre ++ 44 :: runB x.1 x.2 := by
  unfold textR
  rw [List.map_append, List.map_cons, List.map_nil, join_snoc _ _ (by simpa using h)]
theorem runB_eq (f t : Nat) : runB f t = dig2 f ++ (if f < t then 45 :: dig2 t else []) := rfl
theorem Good.mid : ∀ {pre post : List (Nat × Nat)} {x : Nat × Nat} {k : Nat}, Good k (pre ++ x :: post) → x.1 ≤ x.2 ∧ x.2 < 64 ∧ Good (x.2 + 2) post
  | [], post, x, k, h => ⟨h.2.1, h.2.2.1, h.2.2.2⟩
  | y :: pre, post, x, k, h => Good.mid (pre := pre) h.2.2.2
theorem textR_len : ∀ (rs : List (Nat × Nat)), (∀ x ∈ rs, x.1 ≤ x.2 ∧ x.2 < 64) → (textR rs).length ≤ 6 * (flatR rs).length
  | [], _ => by unfold textR; simp [joinC]
  | [x], h => by
    have hx := h x (List.mem_cons_self ..)
    rw [textR_one, flat_cons, flat_nil, List.append_nil, rng_len _ _ hx.1 hx.2]
    unfold runB
    have a := dig2_len x.1
    have b := dig2_len x.2
    split <;> simp <;> omega
  | x :: y :: rs, h => by
    have hx := h x (List.mem_cons_self ..)
    have ih := textR_len (y :: rs) (fun z hz => h z (List.mem_cons_of_mem _ hz))
    have e : textR (x :: y :: rs) = runB x.1 x.2 ++ 44 :: textR (y :: rs) := by
      unfold textR
      rw [List.map_cons, join_cons _ _ (by simp)]
    rw [e, flat_cons, List.length_append, List.length_append, List.length_cons, rng_len _ _ hx.1 hx.2]
    have hr : (runB x.1 x.2).length ≤ 5 := by
      unfold runB
      have a := dig2_len x.1
      have b := dig2_len x.2
      split <;> simp <;> omega
    omega
end Go.Proofs.YthpinbngggcgcaaDoor
