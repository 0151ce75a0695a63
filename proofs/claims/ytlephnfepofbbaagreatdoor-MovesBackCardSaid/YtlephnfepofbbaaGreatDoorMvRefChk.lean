/-
  The document's may, May and All.
-/
import Derived.Test.YtlephnfepofbbaaGreatDoorMvChk2
namespace Go.Proofs.YtlephnfepofbbaaGreatDoor
open Go.RowKit

def wireB (op : Int) : Bool := decide (1 ≤ op) && decide (op ≤ 6)
theorem rwire_any (op : Int) (w : World) : Calls Tryz.prog 93 #[.int .i64 op] w fun e w' => e = .returned (.bool (hasW op)) ∧ w = w' := by
  have HR : Hid (∀ r : Bool, (r = true ↔ (1 ≤ op ∧ op ≤ 6)) → r = hasW op) := Lib.hid fun r h => by rw [Bool.eq_iff_iff, h]; unfold hasW; simp
  generalize hasW op = R at HR ⊢
  go_enter Tryz.func93, Tryz.ntmps93
  go_wp2
  all_goals go_ret
  all_goals exact ⟨retb (HR.out _ (by simp <;> omega)), rfl⟩
theorem rnumber_any (op : Int) (w : World) : Calls Tryz.prog 94 #[.int .i64 op] w fun e w' => e = .returned (.bool (hasN op)) ∧ w = w' := by
  have HR : Hid (∀ r : Bool, (r = true ↔ (op = 2 ∨ op = 6 ∨ op = 7)) → r = hasN op) := Lib.hid fun r h => by rw [Bool.eq_iff_iff, h]; unfold hasN; simp
  generalize hasN op = R at HR ⊢
  go_enter Tryz.func94, Tryz.ntmps94
  go_wp2
  all_goals go_ret
  all_goals exact ⟨retb (HR.out _ (by simp <;> omega)), rfl⟩

theorem stOk_no {x : St} (h : ¬ (x.mv.length ≤ 50 ∧ x.ord.length ≤ 50 ∧ (∀ n ∈ x.ord, 0 ≤ n ∧ n ≤ 999) ∧ ∀ m ∈ x.mv, mvOk m = true)) : stOk x = false := by
  cases e : stOk x with
  | false => rfl
  | true => exact absurd (stOk_parts e) h

theorem allOk_no {l : List St} (h : ¬ (l.length ≤ 2000 ∧ ∀ x ∈ l, stOk x = true)) : allOk l = false := by
  cases e : allOk l with
  | false => rfl
  | true => exact absurd (allOk_parts e) h

end Go.Proofs.YtlephnfepofbbaaGreatDoor
