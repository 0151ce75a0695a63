/-
  A region that draws its order: all its operations but the last one only read, and so do their callees (they may draw); the last one, which waits for all others, is walked behind them. Of any program.
-/
import Derived.Test.YtjejpgognfadoaaGreatDoorCmMem
namespace Go.Proofs.YtjejpgognfadoaaGreatDoor
open Go.RowKit

/-- Each operation waits for earlier ones alone, and is guarded by earlier ones; the last one waits for all. -/
def lastB (l : List Oper) (o : Oper) : Bool :=
  ((List.range l.length).all fun i => o.after.any fun e => Region.binds .any e && e.on == i) && (o.after.all fun e => decide (e.on < l.length)) && o.guard.isNone &&
  ((List.range l.length).all fun j => match l[j]? with
    | some x => (x.after.all fun e => decide (e.on < j)) && (match x.guard with | some (g, _) => decide (g < l.length) | none => true)
    | none => true)

section
variable {P : Program} {C : World → Prop} {l : List Oper} {o : Oper}
theorem lastB_spec (h : lastB l o = true) : (∀ i, i < l.length → ∃ e ∈ o.after, Region.binds .any e = true ∧ e.on = i) ∧ (∀ e ∈ o.after, e.on < l.length) ∧ o.guard = none ∧
    ∀ (j : Nat) (x : Oper), l[j]? = some x → (∀ e ∈ x.after, e.on < j) ∧ ∀ (g : Nat) (b : Bool), x.guard = some (g, b) → g < l.length := by
  unfold lastB at h
  simp only [Bool.and_eq_true, List.all_eq_true, List.mem_range] at h
  obtain ⟨⟨⟨h1, h2⟩, h3⟩, h4⟩ := h
  refine ⟨fun i hi => ?_, fun e he => ?_, by simpa using h3, fun j x hj => ?_⟩
  · obtain ⟨e, he, hb⟩ := Array.any_eq_true'.1 (h1 i hi)
    simp only [Bool.and_eq_true, beq_iff_eq] at hb
    exact ⟨e, he, hb⟩
  · simpa using (Array.all_eq_true'.1 h2) e he
  · have h5 := h4 j (List.getElem?_eq_some_iff.1 hj).1
    rw [hj] at h5
    simp only [Bool.and_eq_true] at h5
    refine ⟨fun e he => by simpa using (Array.all_eq_true'.1 h5.1) e he, fun g b hg => ?_⟩
    have h6 := h5.2
    rw [hg] at h6
    simpa using h6
theorem push_false (listed : Array Bool) (j : Nat) : (listed.push false).getD j false = listed.getD j false := by
  simp only [Array.getD_eq_getD_getElem?, Array.getElem?_push]
  split
  · rename_i h; subst h; simp
  · rfl
theorem push_true (listed : Array Bool) {j : Nat} (hj : j < listed.size) : (listed.push false).getD j true = listed.getD j true := by
  simp only [Array.getD_eq_getD_getElem?, Array.getElem?_push]
  rw [if_neg (by omega)]
theorem ops_head {j : Nat} (hj : j < l.length) : (l ++ [o]).toArray[j]? = l.toArray[j]? := by
  simp [List.getElem?_append_left hj]
theorem ops_last : (l ++ [o]).toArray[l.length]? = some o := by simp
theorem ready_head {listed : Array Bool} (hs : listed.size = l.length) {i : Nat} (hi : i < l.length) : i ∈ Region.ready .any (l ++ [o]).toArray (listed.push false) ↔ i ∈ Region.ready .any l.toArray listed := by
  rw [mem_ready, mem_ready, push_true listed (by omega), ops_head hi]
  constructor
  · rintro ⟨h1, x, h2, h3⟩
    exact ⟨h1, x, h2, fun e he hb => by rw [← push_false]; exact h3 e he hb⟩
  · rintro ⟨h1, x, h2, h3⟩
    exact ⟨h1, x, h2, fun e he hb => by rw [push_false]; exact h3 e he hb⟩
theorem all_of_ready (h : lastB l o = true) {listed : Array Bool} (hr : Region.ready .any l.toArray listed = []) : ∀ (d i : Nat), i ≤ d → i < l.length → listed.getD i true = true := by
  intro d
  induction d with
  | zero =>
    intro i h0 hi
    cases hl : listed.getD i true with
    | true => rfl
    | false =>
      have : i ∈ Region.ready .any l.toArray listed := mem_ready.2 ⟨hl, l[i], by simp [hi], fun e he hb => absurd (((lastB_spec h).2.2.2 i l[i] (by simp [hi])).1 e he) (by omega)⟩
      rw [hr] at this; cases this
  | succ d ih =>
    intro i h0 hi
    cases hl : listed.getD i true with
    | true => rfl
    | false =>
      have : i ∈ Region.ready .any l.toArray listed := mem_ready.2 ⟨hl, l[i], by simp [hi], fun e he hb => by
        have hlt := ((lastB_spec h).2.2.2 i l[i] (by simp [hi])).1 e he
        have h1 := ih e.on (by omega) (by omega)
        rcases Nat.lt_or_ge e.on listed.size with h' | h'
        · simp [h'] at h1 ⊢; exact h1
        · have h2 : listed.getD i true = true := by simp [Array.getElem?_eq_none (by omega : listed.size ≤ i)]
          rw [hl] at h2; cases h2⟩
      rw [hr] at this; cases this
theorem ready_done (h : lastB l o = true) {listed : Array Bool} (hs : listed.size = l.length) (ha : ∀ i, i < l.length → listed.getD i true = true) : Region.ready .any (l ++ [o]).toArray ((listed.push false).setIfInBounds l.length true) = [] := by
  apply List.eq_nil_iff_forall_not_mem.2
  intro i hi
  obtain ⟨h1, x, h2, _⟩ := mem_ready.1 hi
  have hlt : i < l.length + 1 := by have := (Array.getElem?_eq_some_iff.1 h2).1; simpa using this
  by_cases he : i = l.length
  · subst he
    have : ((listed.push false).setIfInBounds l.length true).getD l.length true = true := by simp [hs]
    rw [this] at h1; cases h1
  · have h3 : ((listed.push false).setIfInBounds l.length true).getD i true = listed.getD i true := by
      simp only [Array.getD_eq_getD_getElem?, Array.getElem?_setIfInBounds, Array.getElem?_push]
      rw [if_neg (by omega), if_neg (by omega)]
    rw [h3, ha i (by omega)] at h1
    cases h1
theorem ready_last (h : lastB l o = true) {listed : Array Bool} (hs : listed.size = l.length) : l.length ∈ Region.ready .any (l ++ [o]).toArray (listed.push false) ↔ ∀ i, i < l.length → listed.getD i true = true := by
  obtain ⟨h1, h2, _, _⟩ := lastB_spec h
  rw [mem_ready]
  constructor
  · rintro ⟨_, x, hx, hall⟩ i hi
    rw [ops_last] at hx
    cases hx
    obtain ⟨e, he, hb, rfl⟩ := h1 i hi
    have := hall e he hb
    rw [push_false] at this
    have hlt : e.on < listed.size := by omega
    simp [hlt] at this ⊢
    exact this
  · intro ha
    refine ⟨by simp [← hs], o, ops_last, fun e he _ => ?_⟩
    have hlt : e.on < listed.size := by rw [hs]; exact h2 e he
    have := ha e.on (h2 e he)
    rw [push_false]
    simp [hlt] at this ⊢
    exact this
theorem yielded_head {tmps : Array Value} {g : Nat} (hg : g < l.length) : yielded (l ++ [o]).toArray tmps g = yielded l.toArray tmps g := by
  unfold yielded
  rw [ops_head hg]
theorem wanted_head (h : lastB l o = true) {i : Nat} {x : Oper} (hi : l[i]? = some x) (tmps : Array Value) : Region.wanted x (yielded (l ++ [o]).toArray tmps) = Region.wanted x (yielded l.toArray tmps) := by
  unfold Region.wanted
  cases hg : x.guard with
  | none => rfl
  | some p =>
    obtain ⟨g, b⟩ := p
    simp only [yielded_head (((lastB_spec h).2.2.2 i x hi).2 g b hg)]

/-- The walk of the last one. -/
theorem last_op (h : lastB l o = true) {Q : Exit → Act → World → Prop} {listed : Array Bool} (hs : listed.size = l.length) (ha : ∀ i, i < l.length → listed.getD i true = true) (f : Nat) {a : Act} {w : World}
    (hl : wpList P (l ++ [o]).toArray Q [o] a w) : wpOp P (l ++ [o]).toArray Q l.length (wpAny P .any (l ++ [o]).toArray Q f ((listed.push false).setIfInBounds l.length true)) a w := by
  have h1 : wpOp P (l ++ [o]).toArray Q l.length (wpList P (l ++ [o]).toArray Q []) a w := by
    unfold wpOp
    simp only [ops_last]
    exact hl
  refine wpOp_mono (fun a' w' h' => ?_) h1
  have hr := ready_done h hs ha
  cases f with
  | zero => exact ⟨hr, h'⟩
  | succ f => exact ⟨fun _ => h', fun i hi => by rw [hr] at hi; cases hi⟩

theorem any_of_quiet_last (h : lastB l o = true) {Qa : Act → Prop} {Q : Exit → Act → World → Prop} (hQ : ∀ a w, C w → Qa a → wpList P (l ++ [o]).toArray Q [o] a w) : ∀ (f : Nat) (listed : Array Bool) (a : Act) (w : World), C w → listed.size = l.length →
    wpAnyQ P .any l.toArray C Qa f listed a → wpAny P .any (l ++ [o]).toArray Q (f + 1) (listed.push false) a w
  | 0, listed, a, w, hw, hs, hh => by
    have ha := fun i hi => all_of_ready h hh.1 i i (Nat.le_refl _) hi
    refine ⟨fun h0 => ?_, fun i hi => ?_⟩
    · have := (ready_last h hs).2 ha
      rw [h0] at this; cases this
    · have hlt : i < l.length + 1 := by obtain ⟨_, x, h2, _⟩ := mem_ready.1 hi; have := (Array.getElem?_eq_some_iff.1 h2).1; simpa using this
      by_cases he : i = l.length
      · subst he; exact last_op h hs ha 0 (hQ a w hw hh.2)
      · have := (ready_head hs (by omega : i < l.length)).1 hi
        rw [hh.1] at this; cases this
  | f + 1, listed, a, w, hw, hs, hh => by
    refine ⟨fun h0 => ?_, fun i hi => ?_⟩
    · cases hr : Region.ready .any l.toArray listed with
      | nil =>
        have := (ready_last h hs).2 (fun i hi => all_of_ready h hr i i (Nat.le_refl _) hi)
        rw [h0] at this; cases this
      | cons j t =>
        have hj : j ∈ Region.ready .any l.toArray listed := by rw [hr]; exact List.mem_cons_self
        have hjl : j < l.length := by obtain ⟨_, x, h2, _⟩ := mem_ready.1 hj; have := (Array.getElem?_eq_some_iff.1 h2).1; simpa using this
        have := (ready_head (o := o) hs hjl).2 hj
        rw [h0] at this; cases this
    · have hlt : i < l.length + 1 := by obtain ⟨_, x, h2, _⟩ := mem_ready.1 hi; have := (Array.getElem?_eq_some_iff.1 h2).1; simpa using this
      by_cases he : i = l.length
      · subst he
        have ha := (ready_last h hs).1 hi
        refine last_op h hs ha (f + 1) (hQ a w hw (hh.1 ?_))
        apply List.eq_nil_iff_forall_not_mem.2
        intro j hj
        obtain ⟨h1, x, h2, _⟩ := mem_ready.1 hj
        have hjl : j < l.length := by have := (Array.getElem?_eq_some_iff.1 h2).1; simpa using this
        rw [ha j hjl] at h1; cases h1
      · have hil : i < l.length := by omega
        have h1 := hh.2 i ((ready_head hs hil).1 hi)
        have h2 := wpOp_of_qOp (Q' := Q) hw (fun a' w' hw' => any_of_quiet_last h hQ f (listed.setIfInBounds i true) a' w' hw' (by simpa using hs)) h1
        have e1 : (listed.push false).setIfInBounds i true = (listed.setIfInBounds i true).push false := by
          apply Array.ext_getElem?
          intro j
          simp only [Array.getElem?_setIfInBounds, Array.getElem?_push, Array.size_push, Array.size_setIfInBounds]
          by_cases hj : i = j
          · subst hj
            rw [if_pos rfl, if_pos (by omega), if_neg (by omega), if_pos rfl, if_pos (by omega)]
          · rw [if_neg hj, if_neg hj]
        rw [e1]
        unfold wpOp at h2 ⊢
        rw [ops_head hil]
        have hx : l.toArray[i]? = some l[i] := by simp [hil]
        rw [hx] at h2 ⊢
        simp only at h2 ⊢
        rw [wanted_head h (by simp [hil] : l[i]? = some l[i])]
        exact h2

theorem wp_region_quiet_last {id : Nat} {Q : Exit → Act → World → Prop} {a : Act} {w : World} {l : List Oper} (n : Nat) {o : Oper} (hd : l.drop n = [o]) (hm : P.follows .mixedOrders = true) (hB : Region.lexB .any (l.take n).toArray = true) (hL : lastB (l.take n) o = true)
    (h : wpQuiet P (l.take n).toArray (fun w' => ∃ m, w' = w.drewN m) (fun a' => ∀ w', (∃ m, w' = w.drewN m) → wpList P l.toArray Q [o] a' w') (l.take n) a) : (Code.region id l.toArray true).wp P Q a w := by
  have hl : l = l.take n ++ [o] := by rw [← hd, List.take_append_drop]
  obtain ⟨t, ht⟩ : ∃ t, t = l.take n := ⟨_, rfl⟩
  rw [← ht] at hB hL h hl
  subst hl
  simp only [Region.lexB, Bool.and_eq_true] at hB
  refine wp_region_any hm ?_
  have h1 := wpAnyQ_lex (P := P) (C := fun w' => ∃ m, w' = w.drewN m) (md := .any) hB.1 t 0 (Array.replicate t.toArray.size false) a (by simp) (by simpa using hB.2) h
  have h2 := any_of_quiet_last hL (C := fun w' => ∃ m, w' = w.drewN m) (Q := Q) (fun a' w' hw' hq => hq w' hw') t.length (Array.replicate t.toArray.size false) a { w with drawn := w.drawn + 1 } ⟨1, rfl⟩ (by simp) h1
  have e : (t ++ [o]).toArray.size = t.length + 1 := by simp
  rw [e]
  have e2 : Array.replicate (t.length + 1) false = (Array.replicate t.toArray.size false).push false := by
    rw [← Array.replicate_succ]; simp
  rw [e2]
  exact h2

theorem wpQuiet_mono {ops : Array Oper} {Q Q' : Act → Prop} (h : ∀ a, Q a → Q' a) : ∀ (l : List Oper) (a : Act), wpQuiet P ops C Q l a → wpQuiet P ops C Q' l a
  | [], a, hh => h a hh
  | x :: l, a, hh => by
    unfold wpQuiet at hh ⊢
    split
    · rename_i hw
      rw [if_pos hw] at hh
      exact Oper.quiet_mono (fun a' h' => wpQuiet_mono h l a' h') hh
    · rename_i hw
      rw [if_neg hw] at hh
      exact wpQuiet_mono h l _ hh
theorem wpQuiet_append {ops : Array Oper} {Q : Act → Prop} (l2 : List Oper) : ∀ (l1 : List Oper) (a : Act), wpQuiet P ops C (wpQuiet P ops C Q l2) l1 a → wpQuiet P ops C Q (l1 ++ l2) a
  | [], a, hh => hh
  | x :: l1, a, hh => by
    rw [List.cons_append]
    unfold wpQuiet at hh ⊢
    split
    · rename_i hw
      rw [if_pos hw] at hh
      exact Oper.quiet_mono (fun a' h' => wpQuiet_append l2 l1 a' h') hh
    · rename_i hw
      rw [if_neg hw] at hh
      exact wpQuiet_append l2 l1 _ hh
/-- A quiet walk in two parts: what the first one leaves is said by Mid. -/
theorem wpQuiet_cut {ops : Array Oper} {Q : Act → Prop} {l : List Oper} {a : Act} (n : Nat) (Mid : Act → Prop) (h1 : wpQuiet P ops C Mid (l.take n) a) (h2 : ∀ a, Mid a → wpQuiet P ops C Q (l.drop n) a) : wpQuiet P ops C Q l a := by
  rw [← List.take_append_drop n l]
  exact wpQuiet_append _ _ _ (wpQuiet_mono h2 _ _ h1)
end
end Go.Proofs.YtjejpgognfadoaaGreatDoor
