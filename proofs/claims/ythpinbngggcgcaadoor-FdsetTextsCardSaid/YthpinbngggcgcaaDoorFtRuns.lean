/-
  What the document's Parse has gathered after so many bytes; the list that the runs of a set make. Plain mathematics.
-/
import Derived.Test.YthpinbngggcgcaaDoorFtFlat
import Derived.Test.YthpinbngggcgcaaDoorOkI
namespace Go.Proofs.YthpinbngggcgcaaDoor

theorem rising_extI : ∀ (l m : List Int), l.Pairwise (· < ·) → m.Pairwise (· < ·) → (∀ x, x ∈ l ↔ x ∈ m) → l = m := by
  intro l
  induction l with
  | nil =>
    intro m _ _ h
    cases m with
    | nil => rfl
    | cons y m => exact absurd ((h y).2 (by simp)) (by simp)
  | cons x l ih =>
    intro m hl hm h
    cases m with
    | nil => exact absurd ((h x).1 (by simp)) (by simp)
    | cons y m =>
      obtain ⟨hx, hl'⟩ := List.pairwise_cons.1 hl
      obtain ⟨hy, hm'⟩ := List.pairwise_cons.1 hm
      have exy : x = y := by
        rcases List.mem_cons.1 ((h x).1 (by simp)) with e | e
        · exact e
        · rcases List.mem_cons.1 ((h y).2 (by simp)) with e' | e'
          · exact e'.symm
          · have := hx y e'
            have := hy x e
            omega
      subst exy
      refine congrArg (x :: ·) (ih m hl' hm' fun z => ?_)
      constructor
      · intro hz
        rcases List.mem_cons.1 ((h z).1 (List.mem_cons_of_mem _ hz)) with rfl | e
        · exact absurd (hx z hz) (Int.lt_irrefl _)
        · exact e
      · intro hz
        rcases List.mem_cons.1 ((h z).2 (List.mem_cons_of_mem _ hz)) with rfl | e
        · exact absurd (hy z hz) (Int.lt_irrefl _)
        · exact e
theorem rng_mem (a b x : Int) : x ∈ rng a b ↔ 0 ≤ x ∧ x < 64 ∧ a ≤ x ∧ x ≤ b := by
  unfold rng
  rw [List.mem_map]
  constructor
  · rintro ⟨k, hk, rfl⟩
    simp at hk
    omega
  · rintro ⟨h0, h1, h2, h3⟩
    exact ⟨x.toNat, by simp; omega, by omega⟩
theorem casts_rise (l : List Nat) (h : l.Pairwise (· < ·)) : (l.map fun (k : Nat) => (k : Int)).Pairwise (· < ·) := by
  rw [List.pairwise_map]
  exact h.imp fun h => by omega
theorem rng_rises (a b : Int) : (rng a b).Pairwise (· < ·) := casts_rise _ (List.pairwise_lt_range.filter _)
theorem flat_rises : ∀ (rs : List (Nat × Nat)) (k : Nat), Good k rs → (flatR rs).Pairwise (· < ·) ∧ ∀ x ∈ flatR rs, (k : Int) ≤ x
  | [], _, _ => ⟨List.Pairwise.nil, fun x h => by cases h⟩
  | x :: rs, k, h => by
    obtain ⟨h1, h2⟩ := flat_rises rs (x.2 + 2) h.2.2.2
    rw [flat_cons]
    refine ⟨List.pairwise_append.2 ⟨rng_rises _ _, h1, fun a ha b hb => ?_⟩, fun a ha => ?_⟩
    · have := h2 b hb
      have := (rng_mem _ _ _).1 ha
      omega
    · rcases List.mem_append.1 ha with ha | ha
      · have := (rng_mem _ _ _).1 ha
        have := h.1
        omega
      · have := h2 a ha
        have := h.1
        have := h.2.1
        omega
theorem flat_ok {rs : List (Nat × Nat)} {x : Int} (h : x ∈ flatR rs) : 0 ≤ x ∧ x < 64 := by
  unfold flatR at h
  obtain ⟨y, _, hy⟩ := List.mem_flatMap.1 h
  have := (rng_mem _ _ _).1 hy
  omega
theorem flat_upTo (rs : List (Nat × Nat)) (hg : Good 0 rs) (p : Nat → Bool) (h : ∀ n, n < 64 → p n = inR rs n) : upTo p 64 = flatR rs := by
  refine rising_extI _ _ (casts_rise _ (List.pairwise_lt_range.filter _)) (flat_rises rs 0 hg).1 fun x => ?_
  unfold upTo
  rw [List.mem_map]
  constructor
  · rintro ⟨n, hn, rfl⟩
    simp at hn
    exact (mem_flat rs n hn.1).2 (by rw [← h n hn.1]; exact hn.2)
  · intro hx
    have h0 := flat_ok hx
    obtain ⟨n, rfl⟩ : ∃ n : Nat, x = n := ⟨x.toNat, by omega⟩
    have h1 := (mem_flat rs n (by omega)).1 hx
    exact ⟨n, by simp; exact ⟨by omega, by rw [h n (by omega)]; exact h1⟩, rfl⟩

/-- After so many rounds: one more than there are bytes. -/
def scan (bs : List UInt8) (i : Nat) : Sc := if i ≤ bs.length then runS (bs.take i) ⟨[], 0, -1⟩ else endS (runS bs ⟨[], 0, -1⟩)
theorem scan_zero (bs : List UInt8) : scan bs 0 = ⟨[], 0, -1⟩ := by unfold scan; rw [if_pos (Nat.zero_le _)]; rfl
theorem scan_step (bs : List UInt8) (i : Nat) (h : i < bs.length) : scan bs (i + 1) = stepS (scan bs i) bs[i] := by
  unfold scan
  rw [if_pos (by omega), if_pos (by omega), List.take_add_one, List.getElem?_eq_getElem h, Option.toList_some, runS_snoc]
theorem scan_end (bs : List UInt8) : scan bs (bs.length + 1) = endS (scan bs bs.length) := by
  unfold scan
  rw [if_neg (by omega), if_pos (Nat.le_refl _), List.take_length]
theorem scan_last (bs : List UInt8) : scan bs (bs.length + 1) = endS (runS bs ⟨[], 0, -1⟩) := by unfold scan; rw [if_neg (by omega)]
theorem rng_le (a b : Int) : (rng a b).length ≤ 64 := by
  unfold rng
  rw [List.length_map]
  exact Nat.le_trans (List.length_filter_le _ _) (by simp)
/-- What stays true of it. -/
def ScOk (s : Sc) (m : Nat) : Prop := s.l.length ≤ m ∧ (0 ≤ s.n ∧ s.n ≤ 64) ∧ (-1 ≤ s.f ∧ s.f ≤ 64) ∧ s.l.all okI = true
theorem ScOk.end_ {s : Sc} {m : Nat} (h : ScOk s m) : ScOk (endS s) (m + 64) := by
  unfold endS
  refine ⟨?_, ⟨by simp, by simp⟩, ⟨by simp, by simp⟩, ?_⟩
  · have := rng_le (if s.f < 0 then s.n else s.f) s.n
    have := h.1
    simp only [List.length_append]
    omega
  · simp only [List.all_append, h.2.2.2, Bool.true_and]
    rw [List.all_eq_true]
    intro x hx
    have := (rng_mem _ _ _).1 hx
    simp [okI]
    omega
theorem ScOk.step {s : Sc} {m : Nat} (h : ScOk s m) (c : UInt8) : ScOk (stepS s c) (m + 64) := by
  unfold stepS
  split
  · rename_i hc
    have c0 : 48 ≤ c.toNat := hc.1
    refine ⟨by have := h.1; simp only []; omega, ?_, h.2.2.1, h.2.2.2⟩
    simp only [digS]
    have := h.2.1
    split <;> omega
  · split
    · exact ⟨by have := h.1; simp only []; omega, ⟨by simp, by simp⟩, by have := h.2.1; simp only []; omega, h.2.2.2⟩
    · exact h.end_
theorem scan_ok (bs : List UInt8) : ∀ i, i ≤ bs.length + 1 → ScOk (scan bs i) (64 * i)
  | 0, _ => by rw [scan_zero]; exact ⟨by simp, ⟨by simp, by simp⟩, ⟨by simp, by simp⟩, rfl⟩
  | i + 1, h => by
    have ih := scan_ok bs i (by omega)
    by_cases hl : i < bs.length
    · rw [scan_step bs i hl]
      exact ih.step _
    · obtain rfl : i = bs.length := by omega
      rw [scan_end]
      exact ih.end_
/-- The inner loop: one number more. -/
theorem rng_next (f k : Int) (h0 : 0 ≤ f) (h1 : f ≤ k) (h2 : k < 64) : rng f (k - 1) ++ [k] = rng f k := by
  refine rising_extI _ _ (List.pairwise_append.2 ⟨rng_rises _ _, List.pairwise_singleton _ _, fun a ha b hb => ?_⟩) (rng_rises _ _) fun x => ?_
  · have := (rng_mem _ _ _).1 ha
    rw [List.mem_singleton.1 hb]
    omega
  · rw [List.mem_append, List.mem_singleton, rng_mem, rng_mem]
    omega
theorem rng_none (f : Int) : rng f (f - 1) = [] := by
  rw [List.eq_nil_iff_forall_not_mem]
  intro x hx
  have := (rng_mem _ _ _).1 hx
  omega
theorem rng_full (f k n : Int) (h : ¬ (k ≤ n ∧ k < 64)) (hk : k = f ∨ k ≤ n + 1) : rng f (k - 1) = rng f n := by
  refine rising_extI _ _ (rng_rises _ _) (rng_rises _ _) fun x => ?_
  rw [rng_mem, rng_mem]
  omega
end Go.Proofs.YthpinbngggcgcaaDoor
