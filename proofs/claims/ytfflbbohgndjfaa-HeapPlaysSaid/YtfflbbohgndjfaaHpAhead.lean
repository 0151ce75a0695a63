/-
  The reference's Ahead: which of two items stands ahead.
-/
import Derived.Test.YtfflbbohgndjfaaHpRise
namespace Go.Proofs.Ytfflbbohgndjfaa
open Go.RowKit Go.Maps Go.ChangeMaps Go.Sort

set_option maxHeartbeats 2000000 in
set_option maxRecDepth 100000 in
theorem ahead_any (x y : It) (hxy : Lt x y) (w : World) : Calls Try.prog 29 #[.agg #[.int .i64 x.id, .int .u64 x.d, .int .u64 x.n], .agg #[.int .i64 y.id, .int .u64 y.d, .int .u64 y.n]] w fun e w' => e = .returned (.bool true) ∧ ∃ q os', w' = grow (w.drewN q) os' := by
  obtain ⟨i, d, n⟩ := x
  obtain ⟨i', d', n'⟩ := y
  unfold Lt at hxy
  dsimp only at hxy
  by_cases h1 : d = d'
  · subst h1
    have e1 : (d != d) = false := by simp
    by_cases h2 : n = n'
    · subst h2
      have e2 : (n != n) = false := by simp
      have e3 : i < i' := by omega
      clear hxy
      go_enter Try.func29, Try.ntmps29
      go_wp2
      go_ret
      exact ⟨rfl, 0, _, by simp only [alloc_eq_grow, grow_grow]; rfl⟩
    · have e2 : (n != n') = true := by simpa using h2
      have e3 : n < n' := by omega
      clear hxy h2
      go_enter Try.func29, Try.ntmps29
      go_wp2
      go_ret
      exact ⟨rfl, 0, _, by simp only [alloc_eq_grow, grow_grow]; rfl⟩
  · have e1 : (d != d') = true := by simpa using h1
    have e2 : d < d' := by omega
    clear hxy h1
    go_enter Try.func29, Try.ntmps29
    go_wp2
    go_ret
    exact ⟨rfl, 0, _, by simp only [alloc_eq_grow, grow_grow]; rfl⟩
theorem ahead_grown (x y : It) (hxy : Lt x y) (w : World) (n : Nat) (os : Array Obj) : Calls Try.prog 29 #[.agg #[.int .i64 x.id, .int .u64 x.d, .int .u64 x.n], .agg #[.int .i64 y.id, .int .u64 y.d, .int .u64 y.n]] (grow (w.drewN n) os) fun e w'' =>
    e = .returned (.bool true) ∧ ∃ p : GrownBy, w'' = grow (w.drewN p.n) p.os := Calls.grown_of (ahead_any x y hxy _)
end Go.Proofs.Ytfflbbohgndjfaa
