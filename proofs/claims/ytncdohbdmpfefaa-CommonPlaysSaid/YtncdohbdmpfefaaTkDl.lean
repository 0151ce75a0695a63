/-
  The contract of a deadline, beside the document's own: what each returns, for every input; nothing is turned.
-/
import Derived.Test.YtncdohbdmpfefaaProg
import Derived.WalkKit
import Derived.WalkLawsBesides
import Derived.WalkSpells
import Derived.OwnWalk
import Derived.Lib.Hide
import Derived.Outline
namespace Go.Proofs.Ytncdohbdmpfefaa
open Go.RowKit

theorem ret_int {k : IntKind} {a b : Int} (h : a = b) : Ending.returned (.int k a) = .returned (.int k b) := by rw [h]
theorem ret_bool {a b : Bool} (h : a = b) : Ending.returned (.bool a) = .returned (.bool b) := by rw [h]
/-- A number of uint64. -/
def U (n : Int) : Prop := 0 ≤ n ∧ n ≤ 18446744073709551615
/-- A number of int64. -/
def I (n : Int) : Prop := -9223372036854775808 ≤ n ∧ n ≤ 9223372036854775807

/-- A deadline. -/
def dl (now after : Int) : Int := if 18446744073709551615 - now < after then 18446744073709551615 else now + after
theorem dl_any (now after : Int) (w : World) (h : U now) (g : U after) :
    Calls Try.prog 31 #[.int .u64 now, .int .u64 after] w fun e w' => e = .returned (.int .u64 (dl now after)) ∧ w = w' := by
  obtain ⟨h0, h1⟩ := h
  obtain ⟨g0, g1⟩ := g
  by_cases hc : 18446744073709551615 - now < after
  · go_enter Try.func31, Try.ntmps31
    go_wp2
    go_ret
    exact ⟨ret_int (by unfold dl; rw [if_pos hc]), rfl⟩
  · go_enter Try.func31, Try.ntmps31
    go_wp2
    go_ret
    exact ⟨ret_int (by unfold dl; rw [if_neg (by omega)]), rfl⟩
theorem rdl_any (now after : Int) (w : World) (h : U now) (g : U after) :
    Calls Try.prog 32 #[.int .u64 now, .int .u64 after] w fun e w' => e = .returned (.int .u64 (dl now after)) ∧ w = w' := by
  obtain ⟨h0, h1⟩ := h
  obtain ⟨g0, g1⟩ := g
  by_cases hn : after = 18446744073709551615
  · subst hn
    go_enter Try.func32, Try.ntmps32
    go_wp2
    go_ret
    exact ⟨ret_int (by unfold dl; split <;> omega), rfl⟩
  · by_cases hc : 18446744073709551615 - now < after
    · have e : IntKind.u64.wrap (now + after) = now + after - 18446744073709551616 := by rw [IntKind.wrap_u64]; omega
      go_enter Try.func32, Try.ntmps32
      go_wp2
      go_ret
      exact ⟨ret_int (by unfold dl; rw [if_pos hc]), rfl⟩
    · go_enter Try.func32, Try.ntmps32
      go_wp2
      go_ret
      exact ⟨ret_int (by unfold dl; rw [if_neg (by omega)]), rfl⟩

end Go.Proofs.Ytncdohbdmpfefaa
