/-
  The contract of the statements' own function same: are two slices of ints one list?
-/
import Derived.Test.YthpinbngggcgcaaDoorRef
namespace Go.Proofs.YthpinbngggcgcaaDoor
open Go.RowKit

theorem same_law (xs ys : List Int) (u v : Value) (w : World) (hu : IsL w u xs) (hv : IsL w v ys) :
    Calls Tryd.prog 13 #[u, v] w fun e w' => e = .returned (.bool (sameB xs ys)) ∧ Below w.heap.size w w' := by
  go_enter Tryd.func13, Tryd.ntmps13
  go_wp2_with (go_at_call 36; refine (same_any xs ys u v _ hu hv).mono ?_; rintro e w2 ⟨rfl, hb⟩)
  go_ret
  exact ⟨rfl, hb⟩
theorem same_true (xs ys : List Int) (u v : Value) (w : World) (hu : IsL w u xs) (hv : IsL w v ys) (h : xs = ys) :
    Calls Tryd.prog 13 #[u, v] w fun e w' => e = .returned (.bool true) ∧ Below w.heap.size w w' :=
  (same_law xs ys u v w hu hv).mono fun _ _ ⟨he, hw⟩ => ⟨by rw [he]; simp [sameB, h], hw⟩

end Go.Proofs.YthpinbngggcgcaaDoor
