/-
  What PrioAll reckons of the calls: where a number came first, and all its flags. Mathematics.
-/
import Derived.Test.YtlkmmbondelheaaPrKeep
namespace Go.Proofs.Ytlkmmbondelheaa
open Go.RowKit

/-- Does the law count this call for that number? -/
def hitB (many : Nat) (k : Int) (x : Cal) : Bool := decide (x.id = k ∧ 0 ≤ x.pr ∧ x.pr < (many : Int) ∧ 0 ≤ x.fl)
/-- Where the number came first, and its flags, behind so many calls. -/
def scan (many : Nat) (l : List Cal) (k : Int) : Nat → Int × Int
  | 0 => (-1, 0)
  | i + 1 => match l[i]? with
    | some x => if hitB many k x then (if (scan many l k i).1 < 0 then (i : Int) else (scan many l k i).1, bor (scan many l k i).2 x.fl) else scan many l k i
    | none => scan many l k i
section
variable {many : Nat} {l : List Cal} {k : Int} {i : Nat} {x : Cal}
theorem scan_hit (hx : l[i]? = some x) (h : hitB many k x = true) : scan many l k (i + 1) = (if (scan many l k i).1 < 0 then (i : Int) else (scan many l k i).1, bor (scan many l k i).2 x.fl) := by
  simp only [scan, hx, h, if_true]
theorem scan_miss (hx : l[i]? = some x) (h : hitB many k x = false) : scan many l k (i + 1) = scan many l k i := by
  simp only [scan, hx, h, Bool.false_eq_true, if_false]
theorem scan_le : ∀ i, -1 ≤ (scan many l k i).1 ∧ (scan many l k i).1 < (i : Int) ∧ ((scan many l k i).1 < 0 → (scan many l k i).2 = 0)
  | 0 => by simp [scan]
  | i + 1 => by
    have ih := scan_le i
    simp only [scan]
    cases hx : l[i]? with
    | none => exact ⟨ih.1, by push_cast; omega, ih.2.2⟩
    | some x =>
      dsimp only
      split
      · dsimp only
        split
        · exact ⟨by omega, by push_cast; omega, fun h => by omega⟩
        · exact ⟨ih.1, by push_cast; omega, fun h => by omega⟩
      · exact ⟨ih.1, by push_cast; omega, ih.2.2⟩
theorem scan_i64 : ∀ i, i64 (scan many l k i).2
  | 0 => by simp [scan, i64]
  | i + 1 => by
    have ih := scan_i64 i
    simp only [scan]
    cases hx : l[i]? with
    | none => exact ih
    | some x =>
      dsimp only
      split
      · exact bor_bounds _ _
      · exact ih
end

/-- What the queues have behind j calls. -/
structure Inv (many : Nat) (l : List Cal) (j : Nat) (L : List It) : Prop where
  pos : ∀ y ∈ L, 0 ≤ y.id
  has : ∀ y ∈ L, 0 ≤ (scan many l y.id j).1 ∧ (scan many l y.id j).2 = y.fl ∧ ∃ x, l[(scan many l y.id j).1.toNat]? = some x ∧ x.pr = (y.pr : Int)
  not : ∀ k, 0 ≤ k → hasI L k = false → (scan many l k j).1 < 0
  ord : L.Pairwise fun y z => (scan many l y.id j).1 < (scan many l z.id j).1
theorem Inv.first (many : Nat) (l : List Cal) : Inv many l 0 [] := ⟨fun y hy => by simp at hy, fun y hy => by simp at hy, fun k _ _ => by simp [scan], List.Pairwise.nil⟩
theorem Inv.put {many : Nat} {l : List Cal} {j : Nat} {L : List It} {x : Cal} (H : Inv many l j L) (hx : l[j]? = some x) (bk : Nat) : Inv many l (j + 1) (putS many L x.pr x.id x.fl 0 bk) := by
  have hL := H.pos
  unfold putS
  by_cases ho : putOk many x.pr x.id x.fl 0 = true
  · rw [if_pos ho]
    unfold putOk at ho
    simp at ho
    obtain ⟨o1, o2, o3, o4⟩ := ho
    have hit : ∀ k, hitB many k x = decide (x.id = k) := fun k => by unfold hitB; simp; omega
    have far : ∀ k, k ≠ x.id → scan many l k (j + 1) = scan many l k j := fun k hk => scan_miss hx (by rw [hit]; simpa using fun e => hk e.symm)
    have near := scan_hit (many := many) (k := x.id) hx (by rw [hit]; simp)
    unfold putL
    cases hh : hasI L x.id with
    | true =>
      simp only [if_true]
      obtain ⟨y0, hy0, ey0⟩ := hasI_iff.1 hh
      have h0 := (H.has y0 hy0).1
      rw [ey0] at h0
      have near' : scan many l x.id (j + 1) = ((scan many l x.id j).1, bor (scan many l x.id j).2 x.fl) := by rw [near, if_neg (by omega)]
      have fst : ∀ k, (scan many l k (j + 1)).1 = (scan many l k j).1 := fun k => by
        by_cases e : k = x.id
        · subst e; rw [near']
        · rw [far k e]
      have ids : ∀ y : It, (if y.id = x.id then upIt x.fl 0 y else y).id = y.id := fun y => by split <;> rfl
      refine ⟨fun y hy => ?_, fun y hy => ?_, fun k hk hn => ?_, ?_⟩
      · obtain ⟨z, hz, rfl⟩ := List.mem_map.1 hy
        rw [ids]; exact hL z hz
      · obtain ⟨z, hz, rfl⟩ := List.mem_map.1 hy
        obtain ⟨a, b, c⟩ := H.has z hz
        rw [ids, fst]
        refine ⟨a, ?_, ?_⟩
        · by_cases e : z.id = x.id
          · rw [if_pos e, e, near']
            show bor _ _ = bor z.fl x.fl
            rw [← b, e]
          · rw [if_neg e, far _ e]; exact b
        · have : (if z.id = x.id then upIt x.fl 0 z else z).pr = z.pr := by split <;> rfl
          rw [this]; exact c
      · rw [fst]
        refine H.not k hk ?_
        rw [hasI_false] at hn ⊢
        intro y hy e
        exact hn _ (List.mem_map.2 ⟨y, hy, rfl⟩) (by rw [ids]; exact e)
      · rw [List.pairwise_map]
        refine H.ord.imp ?_
        intro a b h
        rw [ids, ids, fst, fst]; exact h
    | false =>
      simp only [Bool.false_eq_true, if_false]
      have h0 := H.not x.id o3 hh
      have near' : scan many l x.id (j + 1) = ((j : Int), bor 0 x.fl) := by rw [near, if_pos h0, (scan_le j).2.2 h0]
      have hne : ∀ y ∈ L, y.id ≠ x.id := hasI_false.1 hh
      refine ⟨fun y hy => ?_, fun y hy => ?_, fun k hk hn => ?_, ?_⟩
      · rcases List.mem_append.1 hy with hy | hy
        · exact hL y hy
        · simp at hy; subst hy; exact o3
      · rcases List.mem_append.1 hy with hy | hy
        · rw [far _ (hne y hy)]; exact H.has y hy
        · simp at hy
          subst hy
          show 0 ≤ (scan many l x.id (j + 1)).1 ∧ (scan many l x.id (j + 1)).2 = bor 0 x.fl ∧ ∃ z, l[(scan many l x.id (j + 1)).1.toNat]? = some z ∧ z.pr = ((x.pr.toNat : Nat) : Int)
          rw [near']
          exact ⟨by omega, rfl, x, by simpa using hx, by omega⟩
      · rw [hasI_false] at hn
        have e1 := hn _ (List.mem_append_right _ List.mem_cons_self)
        rw [far k (fun e => e1 (by rw [e]; rfl))]
        exact H.not k hk (hasI_false.2 fun y hy => hn y (List.mem_append_left _ hy))
      · rw [List.pairwise_append]
        refine ⟨?_, by simp, fun a ha b hb => ?_⟩
        · refine List.Pairwise.imp_of_mem ?_ H.ord
          intro a b ha hb h
          rw [far _ (hne a ha), far _ (hne b hb)]; exact h
        · simp at hb
          subst hb
          show _ < (scan many l x.id (j + 1)).1
          rw [near', far _ (hne a ha)]
          exact (scan_le j).2.1
  · have ho' : putOk many x.pr x.id x.fl 0 = false := by simpa using ho
    rw [ho']
    simp only [Bool.false_eq_true, if_false]
    have miss : ∀ k, 0 ≤ k → scan many l k (j + 1) = scan many l k j := fun k hk => scan_miss hx (by
      unfold putOk at ho'
      simp at ho'
      unfold hitB
      simp
      intro a b c
      subst a
      have := ho' b c hk
      omega)
    refine ⟨hL, fun y hy => by rw [miss _ (hL y hy)]; exact H.has y hy, fun k hk hn => by rw [miss k hk]; exact H.not k hk hn, ?_⟩
    refine List.Pairwise.imp_of_mem ?_ H.ord
    intro a b ha hb h
    rw [miss _ (hL a ha), miss _ (hL b hb)]; exact h

/-- What is left behind the batches up to a priority. -/
def beyond (L : List It) (last : Int) : List It := L.filter fun x => decide (last < (x.pr : Int))
theorem beyond_first (L : List It) : beyond L (-1) = L := List.filter_eq_self.2 fun x _ => by simp; omega
section
variable {L : List It} {last : Int} {many : Nat}
theorem batch_next (h : beyond L last ≠ []) : ∃ p : Nat, leastI (beyond L last) = (p : Int) ∧ last < (p : Int) ∧ batchL (beyond L last) = ofP L p ∧ ofP L p ≠ [] ∧ restL (beyond L last) = beyond L (p : Int) ∧ (ofP L p).length + (beyond L (p : Int)).length = (beyond L last).length ∧ ∃ x ∈ L, x.pr = p := by
  cases e : leastL (beyond L last) with
  | none => exact absurd (least_none.1 e) h
  | some p =>
    obtain ⟨⟨x, hx, ex⟩, hall⟩ := least_some e
    have hx' := List.mem_filter.1 hx
    have hlt : last < (p : Int) := by have := hx'.2; rw [ex] at this; simpa using this
    have hb : ofP (beyond L last) p = ofP L p := by
      unfold ofP beyond
      rw [List.filter_filter]
      apply List.filter_congr
      intro y hy
      rw [Bool.eq_iff_iff]; simp; intro e; rw [e]; exact hlt
    have hr : (beyond L last).filter (·.pr ≠ p) = beyond L (p : Int) := by
      unfold beyond
      rw [List.filter_filter]
      apply List.filter_congr
      intro y hy
      rw [Bool.eq_iff_iff]
      simp
      constructor
      · rintro ⟨a, b⟩
        have := hall y (List.mem_filter.2 ⟨hy, by simpa using b⟩)
        omega
      · intro a; exact ⟨by omega, by omega⟩
    refine ⟨p, by unfold leastI; rw [e], hlt, by unfold batchL; rw [e]; exact hb, ?_, by unfold restL; rw [e]; exact hr, ?_, x, hx'.1, ex⟩
    · intro h0
      have : x ∈ ofP L p := ofP_mem.2 ⟨hx'.1, ex⟩
      rw [h0] at this; simp at this
    · have h2 := (List.filter_append_perm (fun x : It => decide (x.pr = p)) (beyond L last)).length_eq
      rw [List.length_append] at h2
      rw [← hb, ← hr, ← h2]
      unfold ofP
      congr 2
      apply List.filter_congr
      intro y hy
      simp
end
end Go.Proofs.Ytlkmmbondelheaa
