/-
  The document's Parse as a machine on bytes: what it gathers of a text that a set has. Plain mathematics.
-/
import Derived.Test.YthpinbngggcgcaaDoorParseMath
namespace Go.Proofs.YthpinbngggcgcaaDoor

/-- What it has gathered, the number it is at, and where a run began (-1: nowhere). -/
structure Sc where
  l : List Int
  n : Int
  f : Int
/-- The numbers from a to b, below 64. -/
def rng (a b : Int) : List Int := ((List.range 64).filter fun (k : Nat) => decide (a ≤ (k : Int)) && decide ((k : Int) ≤ b)).map fun (k : Nat) => (k : Int)
def digS (n : Int) (c : UInt8) : Int := if 64 ≤ 10 * n + ((c.toNat : Int) - 48) then 64 else 10 * n + ((c.toNat : Int) - 48)
def endS (s : Sc) : Sc := ⟨s.l ++ rng (if s.f < 0 then s.n else s.f) s.n, 0, -1⟩
def stepS (s : Sc) (c : UInt8) : Sc :=
  if 48 ≤ c ∧ c ≤ 57 then ⟨s.l, digS s.n c, s.f⟩ else if c = 45 then ⟨s.l, 0, s.n⟩ else endS s
def runS (l : List UInt8) (s : Sc) : Sc := l.foldl stepS s
theorem runS_snoc (l : List UInt8) (c : UInt8) (s : Sc) : runS (l ++ [c]) s = stepS (runS l s) c := by unfold runS; rw [List.foldl_append]; rfl
theorem runS_app (l m : List UInt8) (s : Sc) : runS (l ++ m) s = runS m (runS l s) := by unfold runS; rw [List.foldl_append]

theorem run_digits : ∀ (ds : List UInt8) (s : Sc), (∀ c ∈ ds, 48 ≤ c ∧ c ≤ 57) → runS ds s = ⟨s.l, ds.foldl digS s.n, s.f⟩
  | [], s, _ => rfl
  | c :: ds, s, h => by
    have hc := h c (List.mem_cons_self ..)
    show runS ds (stepS s c) = _
    rw [run_digits ds _ (fun x hx => h x (List.mem_cons_of_mem _ hx))]
    unfold stepS
    rw [if_pos hc]
    rfl
theorem dig2_run : ∀ n : Fin 64, (dig2 n.val).foldl digS 0 = (n.val : Int) := by decide +kernel
theorem run_dig2 (n : Nat) (hn : n < 64) (s : Sc) (h0 : s.n = 0) : runS (dig2 n) s = ⟨s.l, (n : Int), s.f⟩ := by
  rw [run_digits _ _ (dig2_digits n hn), h0, dig2_run ⟨n, hn⟩]
/-- One run of numbers, and what ends it. -/
theorem run_run (f t : Nat) (hft : f ≤ t) (ht : t < 64) (l : List Int) : endS (runS (runB f t) ⟨l, 0, -1⟩) = ⟨l ++ rng f t, 0, -1⟩ := by
  unfold runB
  rw [runS_app, run_dig2 f (by omega) ⟨l, 0, -1⟩ rfl]
  by_cases h : f < t
  · rw [if_pos h]
    show endS (runS (dig2 t) (stepS ⟨l, (f : Int), -1⟩ 45)) = _
    have e : stepS ⟨l, (f : Int), -1⟩ 45 = ⟨l, 0, (f : Int)⟩ := by
      unfold stepS
      rw [if_neg (by decide), if_pos rfl]
    rw [e, run_dig2 t ht ⟨l, 0, (f : Int)⟩ rfl]
    unfold endS
    simp only
    rw [if_neg (by omega)]
  · rw [if_neg h]
    obtain rfl : f = t := by omega
    show endS ⟨l, (f : Int), -1⟩ = _
    unfold endS
    simp only
    rw [if_pos (by omega)]
/-- All runs. -/
def flatR (rs : List (Nat × Nat)) : List Int := rs.flatMap fun x => rng (x.1 : Int) (x.2 : Int)
theorem run_text : ∀ (rs : List (Nat × Nat)) (l : List Int), rs ≠ [] → (∀ x ∈ rs, x.1 ≤ x.2 ∧ x.2 < 64) → endS (runS (textR rs) ⟨l, 0, -1⟩) = ⟨l ++ flatR rs, 0, -1⟩
  | [], _, h, _ => absurd rfl h
  | [x], l, _, h => by
    have hx := h x (List.mem_cons_self ..)
    have e : textR [x] = runB x.1 x.2 := by unfold textR; simp [joinC]
    rw [e, run_run x.1 x.2 hx.1 hx.2]
    unfold flatR
    simp
  | x :: y :: rs, l, _, h => by
    have hx := h x (List.mem_cons_self ..)
    have ih := run_text (y :: rs) (l ++ rng (x.1 : Int) (x.2 : Int)) (by simp) (fun z hz => h z (List.mem_cons_of_mem _ hz))
    have e : textR (x :: y :: rs) = runB x.1 x.2 ++ 44 :: textR (y :: rs) := by
      unfold textR
      rw [List.map_cons, join_cons _ _ (by simp)]
    have e2 : runS (textR (x :: y :: rs)) ⟨l, 0, -1⟩ = runS (textR (y :: rs)) (stepS (runS (runB x.1 x.2) ⟨l, 0, -1⟩) 44) := by
      rw [e, runS_app]; rfl
    have e3 : stepS (runS (runB x.1 x.2) ⟨l, 0, -1⟩) 44 = endS (runS (runB x.1 x.2) ⟨l, 0, -1⟩) := by
      unfold stepS
      rw [if_neg (by decide), if_neg (by decide)]
    rw [e2, e3, run_run x.1 x.2 hx.1 hx.2, ih]
    unfold flatR
    simp
theorem mem_rng (a b : Nat) (n : Nat) (hn : n < 64) : ((n : Int) ∈ rng (a : Int) (b : Int)) ↔ (a ≤ n ∧ n ≤ b) := by
  unfold rng
  rw [List.mem_map]
  constructor
  · rintro ⟨k, hk, e⟩
    have e' : k = n := by omega
    subst e'
    simp at hk
    omega
  · rintro ⟨h1, h2⟩
    exact ⟨n, by simp; omega, rfl⟩
theorem mem_flat (rs : List (Nat × Nat)) (n : Nat) (hn : n < 64) : ((n : Int) ∈ flatR rs) ↔ inR rs n = true := by
  unfold flatR
  rw [List.mem_flatMap, inR_iff]
  constructor
  · rintro ⟨x, hx, h⟩
    exact ⟨x, hx, (mem_rng _ _ n hn).1 h⟩
  · rintro ⟨x, hx, h⟩
    exact ⟨x, hx, (mem_rng _ _ n hn).2 h⟩
end Go.Proofs.YthpinbngggcgcaaDoor
