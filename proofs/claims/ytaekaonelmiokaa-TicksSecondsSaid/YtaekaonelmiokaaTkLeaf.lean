/-
  The contracts of deadlines, what is left, waits, and of the single numbers, beside the document's own: what each returns, for every input; nothing is turned.
-/
import Derived.Test.YtaekaonelmiokaaProg
import Derived.WalkKit
import Derived.WalkLawsBesides
import Derived.WalkSpells
import Derived.OwnWalk
import Derived.Lib.Hide
import Derived.Outline
namespace Go.Proofs.Ytaekaonelmiokaa
open Go.RowKit

theorem ret_int {k : IntKind} {a b : Int} (h : a = b) : Ending.returned (.int k a) = .returned (.int k b) := by rw [h]
theorem ret_bool {a b : Bool} (h : a = b) : Ending.returned (.bool a) = .returned (.bool b) := by rw [h]
/-- A number of uint64. -/
def U (n : Int) : Prop := 0 ≤ n ∧ n ≤ 18446744073709551615
/-- A number of int64. -/
def I (n : Int) : Prop := -9223372036854775808 ≤ n ∧ n ≤ 9223372036854775807

/-- A deadline. -/
def dl (now after : Int) : Int := if 18446744073709551615 - now < after then 18446744073709551615 else now + after
theorem dl_any (now after : Int) (w : World) (h : U now) (g : U after) :
    Calls Try.prog 9 #[.int .u64 now, .int .u64 after] w fun e w' => e = .returned (.int .u64 (dl now after)) ∧ w = w' := by
  obtain ⟨h0, h1⟩ := h
  obtain ⟨g0, g1⟩ := g
  by_cases hc : 18446744073709551615 - now < after
  · go_enter Try.func9, Try.ntmps9
    go_wp2
    go_ret
    exact ⟨ret_int (by unfold dl; rw [if_pos hc]), rfl⟩
  · go_enter Try.func9, Try.ntmps9
    go_wp2
    go_ret
    exact ⟨ret_int (by unfold dl; rw [if_neg (by omega)]), rfl⟩
theorem rdl_any (now after : Int) (w : World) (h : U now) (g : U after) :
    Calls Try.prog 10 #[.int .u64 now, .int .u64 after] w fun e w' => e = .returned (.int .u64 (dl now after)) ∧ w = w' := by
  obtain ⟨h0, h1⟩ := h
  obtain ⟨g0, g1⟩ := g
  by_cases hn : after = 18446744073709551615
  · subst hn
    go_enter Try.func10, Try.ntmps10
    go_wp2
    go_ret
    exact ⟨ret_int (by unfold dl; split <;> omega), rfl⟩
  · by_cases hc : 18446744073709551615 - now < after
    · have e : IntKind.u64.wrap (now + after) = now + after - 18446744073709551616 := by rw [IntKind.wrap_u64]; omega
      go_enter Try.func10, Try.ntmps10
      go_wp2
      go_ret
      exact ⟨ret_int (by unfold dl; rw [if_pos hc]), rfl⟩
    · go_enter Try.func10, Try.ntmps10
      go_wp2
      go_ret
      exact ⟨ret_int (by unfold dl; rw [if_neg (by omega)]), rfl⟩

/-- What is left of a deadline. -/
def lf (now d : Int) : Int := if d = 18446744073709551615 then 18446744073709551615 else if d ≤ now then 0 else d - now
theorem lf_any (now d : Int) (w : World) (h : U now) (g : U d) :
    Calls Try.prog 11 #[.int .u64 now, .int .u64 d] w fun e w' => e = .returned (.int .u64 (lf now d)) ∧ w = w' := by
  obtain ⟨h0, h1⟩ := h
  obtain ⟨g0, g1⟩ := g
  by_cases hn : d = 18446744073709551615
  · subst hn
    go_enter Try.func11, Try.ntmps11
    go_wp2
    go_ret
    exact ⟨rfl, rfl⟩
  · by_cases hc : d ≤ now
    · go_enter Try.func11, Try.ntmps11
      go_wp2
      go_ret
      exact ⟨ret_int (by unfold lf; rw [if_neg hn, if_pos hc]), rfl⟩
    · go_enter Try.func11, Try.ntmps11
      go_wp2
      go_ret
      exact ⟨ret_int (by unfold lf; rw [if_neg hn, if_neg (by omega)]), rfl⟩
theorem rlf_any (now d : Int) (w : World) (h : U now) (g : U d) :
    Calls Try.prog 12 #[.int .u64 now, .int .u64 d] w fun e w' => e = .returned (.int .u64 (lf now d)) ∧ w = w' := by
  obtain ⟨h0, h1⟩ := h
  obtain ⟨g0, g1⟩ := g
  by_cases hn : d = 18446744073709551615
  · subst hn
    go_enter Try.func12, Try.ntmps12
    go_wp2
    go_ret
    exact ⟨rfl, rfl⟩
  · by_cases hc : now < d
    · go_enter Try.func12, Try.ntmps12
      go_wp2
      go_ret
      exact ⟨ret_int (by unfold lf; rw [if_neg hn, if_neg (by omega)]), rfl⟩
    · go_enter Try.func12, Try.ntmps12
      go_wp2
      go_ret
      exact ⟨ret_int (by unfold lf; rw [if_neg hn, if_pos (by omega)]), rfl⟩

/-- How long a kernel waits. -/
def wt (left : Int) (busy : Bool) : Int := if busy = true then 0 else if left = 18446744073709551615 then 18446744073709551615 else if 1048576 < left then 1048576 else left
theorem wt_any (left : Int) (busy : Bool) (w : World) (h : U left) :
    Calls Try.prog 15 #[.int .u64 left, .bool busy] w fun e w' => e = .returned (.int .u64 (wt left busy)) ∧ w = w' := by
  obtain ⟨h0, h1⟩ := h
  cases busy with
  | true =>
    go_enter Try.func15, Try.ntmps15
    go_wp2
    go_ret
    exact ⟨rfl, rfl⟩
  | false =>
    by_cases hn : left = 18446744073709551615
    · subst hn
      go_enter Try.func15, Try.ntmps15
      go_wp2
      go_ret
      exact ⟨rfl, rfl⟩
    · by_cases hc : 1048576 < left
      · go_enter Try.func15, Try.ntmps15
        go_wp2
        go_ret
        exact ⟨ret_int (by unfold wt; simp [hn, hc]), rfl⟩
      · go_enter Try.func15, Try.ntmps15
        go_wp2
        go_ret
        exact ⟨ret_int (by unfold wt; rw [if_neg (by simp), if_neg hn, if_neg (by omega)]), rfl⟩
theorem rwt_any (left : Int) (busy : Bool) (w : World) (h : U left) :
    Calls Try.prog 16 #[.int .u64 left, .bool busy] w fun e w' => e = .returned (.int .u64 (wt left busy)) ∧ w = w' := by
  obtain ⟨h0, h1⟩ := h
  cases busy with
  | true =>
    go_enter Try.func16, Try.ntmps16
    go_wp2
    go_ret
    exact ⟨rfl, rfl⟩
  | false =>
    by_cases hn : left = 18446744073709551615
    · subst hn
      go_enter Try.func16, Try.ntmps16
      go_wp2
      go_ret
      exact ⟨rfl, rfl⟩
    · by_cases hc : 1048576 < left
      · go_enter Try.func16, Try.ntmps16
        go_wp2
        go_ret
        exact ⟨ret_int (by unfold wt; simp [hn, hc]), rfl⟩
      · go_enter Try.func16, Try.ntmps16
        go_wp2
        go_ret
        exact ⟨ret_int (by unfold wt; rw [if_neg (by simp), if_neg hn, if_neg (by omega)]), rfl⟩
end Go.Proofs.Ytaekaonelmiokaa
