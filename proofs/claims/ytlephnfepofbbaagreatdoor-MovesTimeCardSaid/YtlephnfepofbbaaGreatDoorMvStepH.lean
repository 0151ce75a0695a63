/-
  The program's writer: a step, and Text.
-/
import Derived.Test.YtlephnfepofbbaaGreatDoorMvWrite
namespace Go.Proofs.YtlephnfepofbbaaGreatDoor
open Go.RowKit

theorem moveB_len (m : Mo) (h : mvOk m = true) (hw : m.Wf) : (sp (moveWs m)).length ≤ 2060 := by
  obtain ⟨_, h1, h2, h3, _⟩ := mvOk_parts h
  have a := word_size m.op
  have b := decI_len h1 hw.2.1.2
  have c := decI_len h2 hw.2.2.2
  have d := hex_len m.b
  unfold sp moveWs
  simp only [List.flatMap_cons, List.flatMap_append, List.length_append, List.length_cons]
  split <;> split <;> split <;> simp <;> omega
theorem movesB_len : ∀ l : List Mo, (∀ m ∈ l, mvOk m = true) → (∀ m ∈ l, m.Wf) → (l.flatMap fun m => sp (moveWs m)).length ≤ 2060 * l.length
  | [], _, _ => by simp
  | m :: l, h, hw => by
    have ih := movesB_len l (fun x hx => h x (List.mem_cons_of_mem _ hx)) (fun x hx => hw x (List.mem_cons_of_mem _ hx))
    have := moveB_len m (h m (by simp)) (hw m (by simp))
    rw [List.flatMap_cons, List.length_append, List.length_cons]; omega
theorem line_len (x : St) (h : stOk x = true) (hw : x.Wf) : (lineB x).length ≤ 105000 := by
  obtain ⟨h1, h2, h3, h4⟩ := stOk_parts h
  have a := movesB_len x.mv h4 hw.2.2
  have b := ordB_len x.ord h3
  have c := dec_len x.t (by have := hw.1; omega)
  rw [line_eq]
  simp only [List.length_append, List.length_cons]
  have d : (if x.intr = true then 32 :: wIntr else []).length ≤ 5 := by split <;> simp [wIntr]
  have e : (if x.ord = [] then [] else (32 :: wOrder) ++ (32 :: ordB x.ord)).length ≤ 1200 := by
    split
    · simp
    · simp [wOrder]; omega
  have f : wStep.length = 4 := rfl
  omega
end Go.Proofs.YtlephnfepofbbaaGreatDoor
