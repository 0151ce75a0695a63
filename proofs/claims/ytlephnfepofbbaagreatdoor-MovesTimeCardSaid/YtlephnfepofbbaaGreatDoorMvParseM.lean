/-
  Parse, plain: line by line with their ends, or piece by piece between line feeds: the same.
-/
import Derived.Test.YtlephnfepofbbaaGreatDoorMvLines
import Derived.Test.YtlephnfepofbbaaGreatDoorMtBase
namespace Go.Proofs.YtlephnfepofbbaaGreatDoor

theorem split_no (c : UInt8) : ∀ l p, p ∈ splitB c l → c ∉ p
  | [], p, h => by simp [splitB] at h; simp [h]
  | x :: r, p, h => by
    have ih := split_no c r
    unfold splitB at h
    split at h
    · rcases List.mem_cons.1 h with rfl | h
      · simp
      · exact ih p h
    · rename_i hx
      split at h
      · rename_i a t he
        rcases List.mem_cons.1 h with rfl | h
        · intro hm
          rcases List.mem_cons.1 hm with e | hm
          · exact hx e.symm
          · exact ih a (by rw [he]; simp) hm
        · exact ih p (by rw [he]; simp [h])
      · have : p = [x] := by simpa using h
        subst this
        intro hm
        have : c = x := by simpa using hm
        exact hx this.symm
theorem suf_app (p : List UInt8) : Lib.hasSuffix (p ++ [10]) [10] = true := by
  simp [Lib.hasSuffix]
theorem trim_app (p : List UInt8) : Lib.trimSuffix (p ++ [10]) [10] = p := by
  simp [Lib.trimSuffix, Lib.hasSuffix]
theorem suf_no {p : List UInt8} (h : (10 : UInt8) ∉ p) : Lib.hasSuffix p [10] = false := by
  cases hh : Lib.hasSuffix p [10] with
  | false => rfl
  | true =>
    exfalso
    unfold Lib.hasSuffix at hh
    obtain ⟨q, hq⟩ := List.isSuffixOf_iff_suffix.1 hh
    exact h (by rw [← hq]; simp)
/-- What reads lines that have their ends. -/
def parseG : List (List UInt8) → Nat → List St → Except Nat (List St)
  | [], _, acc => .ok acc
  | y :: ys, n, acc => match rdLine (Lib.trimSuffix y [10]) with
    | some x => if Lib.hasSuffix y [10] = false ∨ 2000 < n + 1 then .error (n + 1) else parseG ys (n + 1) (acc ++ [x])
    | none => .error (n + 1)
theorem parseG_lines : ∀ (ps : List (List UInt8)) (n : Nat) (acc : List St), (∀ p ∈ ps, (10 : UInt8) ∉ p) → parseG (linesS ps) n acc = parseL ps n acc
  | [], n, acc, _ => rfl
  | [p], n, acc, h => by
    unfold linesS parseL
    split
    · rfl
    · unfold parseG
      rw [suf_no (h p (by simp))]
      split
      · simp
      · rfl
  | p :: q :: ps, n, acc, h => by
    have ih := parseG_lines (q :: ps) (n + 1)
    unfold linesS parseL parseG
    rw [trim_app, suf_app]
    cases rdLine p with
    | none => rfl
    | some x =>
      simp only []
      by_cases h2 : 2000 < n + 1
      · rw [if_pos (.inr h2), if_pos h2]
      · rw [if_neg (fun e => by rcases e with e | e; (cases e); exact h2 e), if_neg h2]
        exact ih _ (fun x hx => h x (List.mem_cons_of_mem _ hx))
theorem parseG_eq (s : List UInt8) : parseG (linesB s) 0 [] = parseS s := parseG_lines _ _ _ (split_no 10 s)
end Go.Proofs.YtlephnfepofbbaaGreatDoor
