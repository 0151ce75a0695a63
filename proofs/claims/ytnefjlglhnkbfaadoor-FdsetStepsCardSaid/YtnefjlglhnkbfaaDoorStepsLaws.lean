/-
  What FdsetSteps asks of lists and words: going from the least one to the next; those below a number, and the others.
-/
import Derived.Test.YtnefjlglhnkbfaaDoorSetLaws
import Derived.Test.YtnefjlglhnkbfaaDoorNext
import Derived.Test.YtnefjlglhnkbfaaDoorBelow
namespace Go.Proofs.YtnefjlglhnkbfaaDoor

theorem memI_rises (a b : Nat) : (memI a b).Pairwise (· < ·) := by
  unfold memI mem
  rw [List.pairwise_map]
  refine List.Pairwise.imp (R := (· < ·)) (fun h => by omega) ?_
  exact List.Pairwise.filter _ (List.pairwise_lt_range)
/-- From where the k-th step asks. -/
def fromI (l : List Int) (k : Nat) : Int := match k with
  | 0 => -1099511627776
  | j + 1 => l[j]?.getD 0 + 1
theorem rise_le {l : List Int} (h : l.Pairwise (· < ·)) {i j : Nat} (hij : i ≤ j) (hj : j < l.length) : l[i]?.getD 0 ≤ l[j]?.getD 0 := by
  rcases Nat.lt_or_eq_of_le hij with hlt | rfl
  · have := (List.pairwise_iff_getElem.1 h) i j (by omega) hj hlt
    rw [List.getElem?_eq_getElem (by omega), List.getElem?_eq_getElem hj]
    exact Int.le_of_lt this
  · exact Int.le_refl _
theorem from_step {l : List Int} (h : l.Pairwise (· < ·)) (h0 : ∀ x ∈ l, 0 ≤ x) {k : Nat} (hk : k < l.length) : nextI l (fromI l k) = (l[k]?.getD 0, true) ∧ fromI l k ≤ l[k]?.getD 0 := by
  have hle : fromI l k ≤ l[k]?.getD 0 := by
    cases k with
    | zero =>
      have := h0 (l[0]?.getD 0) (by rw [List.getElem?_eq_getElem hk]; exact List.getElem_mem hk)
      show -1099511627776 ≤ _
      omega
    | succ j =>
      have := (List.pairwise_iff_getElem.1 h) j (j + 1) (by omega) hk (by omega)
      show l[j]?.getD 0 + 1 ≤ _
      rw [List.getElem?_eq_getElem (by omega), List.getElem?_eq_getElem hk]
      simp only [Option.getD_some]
      omega
  refine ⟨?_, hle⟩
  obtain ⟨y, hy⟩ : ∃ y, l[k] = y := ⟨_, rfl⟩
  have e : l.take k ++ y :: l.drop (k + 1) = l := by rw [← hy, ← List.drop_eq_getElem_cons hk, List.take_append_drop]
  have hx : l[k]?.getD 0 = y := by rw [List.getElem?_eq_getElem hk, hy]; rfl
  rw [hx] at hle ⊢
  obtain ⟨f, hf⟩ : ∃ f, fromI l k = f := ⟨_, rfl⟩
  rw [hf] at hle ⊢
  have hlt : ∀ y ∈ l.take k, y < f := by
    intro y hy
    obtain ⟨i, hi, rfl⟩ := List.mem_iff_getElem.1 hy
    rw [List.length_take] at hi
    cases k with
    | zero => omega
    | succ j =>
      have := rise_le h (i := i) (j := j) (by omega) (by omega)
      rw [List.getElem?_eq_getElem (by omega)] at this
      rw [← hf]
      show _ < l[j]?.getD 0 + 1
      rw [List.getElem_take]
      simp only [Option.getD_some] at this
      omega
  have := nextI_some (l.take k) (l.drop (k + 1)) y f hlt hle
  rw [e] at this
  exact this
theorem from_end {l : List Int} (h : l.Pairwise (· < ·)) : nextI l (fromI l l.length) = (0, false) := by
  refine nextI_none _ _ fun x hx => ?_
  obtain ⟨i, hi, rfl⟩ := List.mem_iff_getElem.1 hx
  obtain ⟨j, hj⟩ : ∃ j, l.length = j + 1 := ⟨l.length - 1, by omega⟩
  rw [hj]
  have := rise_le h (i := i) (j := j) (by omega) (by omega)
  rw [List.getElem?_eq_getElem hi] at this
  show _ < l[j]?.getD 0 + 1
  simp only [Option.getD_some] at this
  omega
theorem from_u {l : List Int} (h64 : ∀ x ∈ l, 0 ≤ x ∧ x < 64) (k : Nat) (hk : k ≤ l.length) : -1099511627776 ≤ fromI l k ∧ fromI l k ≤ 64 := by
  cases k with
  | zero => exact ⟨Int.le_refl _, by show (-1099511627776 : Int) ≤ 64; omega⟩
  | succ j =>
    have := h64 (l[j]?.getD 0) (by rw [List.getElem?_eq_getElem (by omega)]; exact List.getElem_mem _)
    show _ ≤ l[j]?.getD 0 + 1 ∧ l[j]?.getD 0 + 1 ≤ 64
    omega
theorem low_lt (a b : Nat) (q : Int) (x : Int) (h : x ∈ memI (a &&& mask q.toNat) (b &&& mask (q.toNat - 32))) : x < q := by
  obtain ⟨h0, h1, h2⟩ := (mem_memI _ _ _).1 h
  rw [hasB_below _ _ _ _ (by omega)] at h2
  simp only [Bool.and_eq_true, decide_eq_true_eq] at h2
  omega
theorem high_ge (a b : Nat) (q : Int) (ha : a < 4294967296) (hb : b < 4294967296) (x : Int) (h : x ∈ memI (a &&& (4294967295 - (a &&& mask q.toNat))) (b &&& (4294967295 - (b &&& mask (q.toNat - 32))))) : ¬ x < q := by
  obtain ⟨h0, h1, h2⟩ := (mem_memI _ _ _).1 h
  rw [hasB_less _ _ _ _ _ (and_lt _ ha) (and_lt _ hb) (by omega), hasB_below _ _ _ _ (by omega)] at h2
  simp only [Bool.and_eq_true, Bool.not_eq_true', Bool.and_eq_false_iff, decide_eq_false_iff_not] at h2
  obtain ⟨h3, h4⟩ := h2
  rcases h4 with h4 | h4
  · rw [h3] at h4; cases h4
  · omega
theorem low_high (a m : Nat) (ha : a < 4294967296) : (a &&& m) ||| (a &&& (4294967295 - (a &&& m))) = a := by
  refine word_ext _ _ (or_lt (and_lt _ ha) (and_lt _ ha)) ha fun i hi => ?_
  simp only [Nat.testBit_or, Nat.testBit_and, testBit_not _ _ (and_lt m ha) hi]
  cases a.testBit i <;> cases m.testBit i <;> rfl
end Go.Proofs.YtnefjlglhnkbfaaDoor
