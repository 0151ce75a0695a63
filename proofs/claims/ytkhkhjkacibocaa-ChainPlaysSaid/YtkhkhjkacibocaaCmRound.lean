/-
  A region that draws its order, in a round of a range over a function: what is shown of all orders outside a round holds in it; reads ahead of a tail that is carried out in its order.
-/
import Derived.Test.YtkhkhjkacibocaaCmMem
import Derived.StillTailTactics
import Derived.OwnWalkIn
import Derived.OrdersIn
import Derived.RangeFuncCalls
import Derived.RangeFuncNested
namespace Go.Proofs.Ytkhkhjkacibocaa
open Go

/-- A piece of code that ends by itself. -/
def endsN (R : Act → World → Prop) : Exit → Act → World → Prop
  | .normal, a, w => R a w
  | _, _, _ => False
theorem wp_ends {P : Program} {c : Code} {Q : Exit → Act → World → Prop} {a : Act} {w : World} (h : c.wp P (endsN fun a w => Q .normal a w) a w) : c.wp P Q a w :=
  Go.wp_mono h fun e a w he => by cases e <;> first | exact he | exact he.elim
theorem wpIn_ends {F : Fence} {n : Nat} {P : Program} {c : Code} {Q : Exit → Act → World → Prop} {a : Act} {w : World} (h : c.wpIn F n P (endsN fun a w => Q .normal a w) a w) : c.wpIn F n P Q a w :=
  wpIn_mono h fun e a w he => by cases e <;> first | exact he | exact he.elim

section
variable {l n : Nat} {P : Program} {R : Act → World → Prop}
theorem not_out : ¬ LetsOut (endsN R) := fun ⟨_, _, h⟩ => h
theorem upon_round {o : Oper} {a : Act} {K : Act → World → Prop} : ∀ {r : Result Next}, o.upon P a K (endsN R) r → o.uponIn (Fence.wide.inRound l) n P a K (endsN R) r
  | .ok (.value _) _, h => h
  | .ok .skip _, h => h
  | .ok (.defer _) _, h => h
  | .ok (.enter f args) w', h => ⟨(fun e => by cases e), (CallsIn.inRound l (callsIn_wide.2 h)).mono fun e w h => by cases e <;> exact h⟩
  | .ok (.row row args) w', h => ⟨(fun e => by cases e), fun c cs _ => by
      obtain ⟨v, w2, r, s⟩ := (show Rows P row args w' fun v w'' => K (a.put o.dst v) w'' from h) c cs
      exact ⟨v, w2, r, stepsIn_wide.2 s⟩⟩
  | .halt (.panic _) _, h => h

theorem plain_at {ops : Array Oper} (hp : ∀ o ∈ ops.toList, ∀ c, o.op ≠ .defer c) {i : Nat} {o : Oper} (h : ops[i]? = some o) : ∀ c, o.op ≠ .defer c := hp o (by
  obtain ⟨hi, e⟩ := Array.getElem?_eq_some_iff.1 h
  rw [← e]; simp)
theorem op_round {ops : Array Oper} (hp : ∀ o ∈ ops.toList, ∀ c, o.op ≠ .defer c) {i : Nat} {K K' : Act → World → Prop} (hK : ∀ a w, K a w → K' a w) {a : Act} {w : World} (h : wpOp P ops (endsN R) i K a w) : wpOpIn (Fence.wide.inRound l) n P ops (endsN R) i K' a w := by
  unfold wpOp at h
  unfold wpOpIn
  cases ho : ops[i]? with
  | none => rw [ho] at h; exact hK _ _ h
  | some o =>
    rw [ho] at h
    simp only at h ⊢
    split at h
    · rename_i hw
      simp only [hw, if_true]
      rcases h with h | ⟨_, h⟩
      · have h2 : o.wpIn (Fence.wide.inRound l) n P a w K (endsN R) := by
          refine ⟨fun _ _ => trivial, ?_⟩
          rw [Oper.semAt_plain _ _ _ (plain_at hp ho)]
          exact upon_round h
        exact Oper.wpIn_mono hK h2
      · exact absurd h not_out
    · rename_i hw
      simp only [hw]
      exact ⟨fun _ _ => trivial, hK _ _ h⟩
theorem any_round {md : Region.Mode} {ops : Array Oper} (hp : ∀ o ∈ ops.toList, ∀ c, o.op ≠ .defer c) : ∀ (fuel : Nat) (listed : Array Bool) (a : Act) (w : World), wpAny P md ops (endsN R) fuel listed a w → wpAnyIn (Fence.wide.inRound l) n P md ops (endsN R) fuel listed a w
  | 0, _, _, _, h => h
  | fuel + 1, _, _, _, h => ⟨h.1, fun i hi => op_round hp (fun a w h => any_round hp fuel _ a w h) (h.2 i hi)⟩

/-- Reads, in whatever order; then m and all behind it, one by one. -/
theorem any_tail {l : List Oper} {Q : Exit → Act → World → Prop} {a : Act} {W : World} (m : Nat) (hB : Region.lexTailB .any l.toArray m = true)
    (h : wpStill P l.toArray W (fun a' => wpList P l.toArray Q (l.drop m) a' W) (l.take m) a) : wpAny P .any l.toArray Q l.toArray.size (Array.replicate l.toArray.size false) a W := by
  simp only [Region.lexTailB, Bool.and_eq_true, decide_eq_true_eq] at hB
  obtain ⟨⟨⟨⟨h1, h2⟩, h3⟩, h4⟩, h5⟩ := hB
  have hm : m < l.length := by simpa using h2
  have ht : (l.take m).length = m := by rw [List.length_take]; omega
  have hd : (l.drop m).length = l.toArray.size - m := by simp
  have hi : HeadInv .any l.toArray m (Array.replicate l.toArray.size false) := ⟨by simp, (fun j oj _ hl => by rw [getD_replicate_false] at hl; cases hl), fun t _ ht => getD_in (by simpa using ht) (getD_replicate_false _ _)⟩
  have H := wpAnyL_lex (md := .any) (g := l.toArray.size - m) h1 h3 h4 h2 (l.take m) 0 _ a (fun j hj => by
    rw [ht] at hj
    simp [hj]) (by rw [Nat.zero_add]; exact ht) hi (by rw [ht]; exact h5) h
  have H2 := wpAny_of_head (Q' := Q) (g := l.toArray.size - m) (fun listed a' hL => by
    have h6 := wpAny_of_seq (md := .any) (Q' := Q) (l.drop m) m listed a' W (fun j => by rw [List.getElem?_drop]; simp) (by rw [hd]; exact hL.1) hL.2
    rwa [hd] at h6) _ _ _ H
  rw [ht] at H2
  have e : m + (l.toArray.size - m) = l.toArray.size := by omega
  rwa [e] at H2
/-- In a round: reads, then a tail. -/
theorem wpIn_region_tail {k id : Nat} {l : List Oper} {a : Act} {w : World} {Q : Exit → Act → World → Prop} (m : Nat) (hm : P.follows .mixedOrders = true) (hp : (l.all fun o => match o.op with | .defer _ => false | _ => true) = true) (hB : Region.lexTailB .any l.toArray m = true)
    (h : wpStill P l.toArray w.drew (fun a' => wpList P l.toArray (endsN fun a w => Q .normal a w) (l.drop m) a' w.drew) (l.take m) a) : (Code.region id l.toArray true).wpIn (Fence.wide.inRound k) n P Q a w :=
  wpIn_ends (wpIn_region_any hm (any_round (fun o ho c e => by
    have := List.all_eq_true.1 hp o (by simpa using ho)
    rw [e] at this; cases this) _ _ _ _ (any_tail m hB h)))
end
end Go.Proofs.Ytkhkhjkacibocaa
