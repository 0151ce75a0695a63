/-
  Two sets are compared word by word.
-/
import Derived.Test.YthpinbngggcgcaaDoorProg
import Derived.Laws.StructEq
import Derived.WalkKit
namespace Go.Proofs.YthpinbngggcgcaaDoor
open Go.RowKit

theorem eqSet_d (t : Nat) (ht : Tryd.prog.underlying t = some (.array 2 23)) (n : Nat) (a b c d : Int) (he : ∀ (x y : Int) w, Sem.run Tryd.prog (Op.equalIn n 23 (.int .u32 x) (.int .u32 y)) w = .ok (x == y) w) (w : World) :
    Sem.run Tryd.prog (Op.equalIn (n + 1) t (.agg #[.int .u32 a, .int .u32 b]) (.agg #[.int .u32 c, .int .u32 d])) w = .ok (a == c && b == d) w := by
  have hsz : ∀ w, Sem.run Tryd.prog (sizeOf 23) w = .ok 1 w := fun _ => by kernel_rfl
  have p0 : ∀ (x y : Int) w, Sem.run Tryd.prog (part 23 #[.int .u32 x, .int .u32 y] 0) w = .ok (.int .u32 x) w := fun _ _ _ => by kernel_rfl
  have p1 : ∀ (x y : Int) w, Sem.run Tryd.prog (part 23 #[.int .u32 x, .int .u32 y] 1) w = .ok (.int .u32 y) w := fun _ _ _ => by kernel_rfl
  simp only [Op.equalIn, Sem.run_bind, run_underlying ht, Result.andThen_ok, hsz]
  rw [Std.Legacy.Range.forIn_eq_forIn_range']
  cases h1 : (a == c) <;> cases h2 : (b == d) <;> simp [Std.Legacy.Range.size, List.range', Sem.run_bind, p0, p1, he, h1, h2, Result.andThen]
theorem eqSet (a b c d : Int) : ∀ w, Sem.run Tryd.prog (Op.equalIn 10000 25 (.agg #[.int .u32 a, .int .u32 b]) (.agg #[.int .u32 c, .int .u32 d])) w = .ok (a == c && b == d) w :=
  eqSet_d _ Tryd.underlying25 9999 a b c d fun x y w => run_equalIn_int w 9998 23 .u32 .u32 x y Tryd.underlying23
end Go.Proofs.YthpinbngggcgcaaDoor
