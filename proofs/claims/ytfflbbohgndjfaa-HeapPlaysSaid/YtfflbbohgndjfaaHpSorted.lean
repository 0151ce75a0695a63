/-
  slices.SortedFunc at items, and the heap's All: a new slice with the items in their order.
-/
import Derived.Test.YtfflbbohgndjfaaHpColl
import Derived.Test.YtfflbbohgndjfaaShelfSort
import Derived.Shelf.SlSortCmp.NoneTotal
namespace Go.Proofs.Ytfflbbohgndjfaa
open Go.RowKit Go.Shelf Go.Maps Go.ChangeMaps Go.Sort Go.Lib

theorem lt_of (x y : It) : ltOf ordI x y = decide (Lt x y) := by
  unfold ltOf
  rw [Bool.eq_iff_iff]
  simp only [decide_eq_true_eq]
  exact ord_lt x y
theorem swo : SWO (ltOf ordI) where
  irrefl x := by rw [lt_of]; simpa using lt_irrefl x
  trans x y z h1 h2 := by rw [lt_of] at *; simp at *; exact lt_trans h1 h2
  ntrans x y z h1 h2 := by rw [lt_of] at *; simp at *; exact le_trans' (x := z) (y := y) (z := x) h2 h1
theorem parts (x y : It) (h : ltOf ordI x y = false) (k : ltOf ordI y x = false) : x = y := by
  rw [lt_of] at h k
  simp at h k
  rcases lt_or x y with e | e | e
  · exact absurd e h
  · exact e
  · exact absurd e k

/-- Sorted by the library: in order. -/
theorem merge_srt {P S : List It} (hs : Srt S) (hp : P.Perm S) (hu : Uniq P) : P.mergeSort (fun x y => !(ltOf ordI) y x) = S := by
  have h1 := List.mergeSort_perm P (fun x y => !(ltOf ordI) y x)
  have h2 := List.pairwise_mergeSort (le := fun x y => !(ltOf ordI) y x) (fun a b c h k => by
    simp only [lt_of, Bool.not_eq_true', decide_eq_false_iff_not] at *
    exact le_trans' (x := a) (y := b) (z := c) h k) (fun a b => by
    simp only [lt_of, Bool.or_eq_true, Bool.not_eq_true', decide_eq_false_iff_not]
    rcases lt_or a b with e | e | e
    · exact .inl (lt_le e)
    · subst e; exact .inl (lt_irrefl _)
    · exact .inr (lt_le e)) P
  refine srt_unique ?_ hs (h1.trans hp)
  have hu' := hu.perm h1
  unfold Srt
  unfold Uniq at hu'
  rw [List.nodup_iff_pairwise_ne, List.pairwise_map] at hu'
  refine (h2.and hu').imp fun {a b} h => ?_
  have := h.1
  simp only [lt_of, Bool.not_eq_true', decide_eq_false_iff_not] at this
  exact lt_of_le_ne this h.2

theorem enc_three (x : It) : (encIt x).length = 3 := rfl
theorem enc_one (x : It) : ∀ v ∈ encIt x, v.oneCell' = true := fun v hv => by simp [encIt] at hv; rcases hv with rfl | rfl | rfl <;> rfl

theorem flat_it (P : List It) : (flatK encIt 3 P.toArray).toList = P.flatMap encIt := by
  apply List.ext_getElem?
  intro t
  by_cases ht : t < P.length * 3
  · have h1 : t / 3 < P.length := by omega
    have hx : P[t / 3]? = some P[t / 3] := List.getElem?_eq_getElem h1
    obtain ⟨e0, e1, e2⟩ := enc_at P (t / 3) _ hx
    have hl : (flatK encIt 3 P.toArray).toList[t]? = some ((encIt P[t / 3])[t % 3]!) := by
      rw [Array.getElem?_toList, Array.getElem?_eq_getElem (by rw [size_flatK]; simpa using ht)]
      congr 1
      have := get_flatK encIt 3 P.toArray t (by simpa using ht)
      rw [getElem!_pos _ t (by rw [size_flatK]; simpa using ht)] at this
      rw [this]
      congr 2
      rw [getElem!_pos _ _ (by simpa using h1)]
      simp
    rw [hl]
    have hm : t % 3 = 0 ∨ t % 3 = 1 ∨ t % 3 = 2 := by omega
    rcases hm with h | h | h
    · rw [h, congrArg (fun q => (P.flatMap encIt)[q]?) (show t = t / 3 * 3 from by omega), e0]; rfl
    · rw [h, congrArg (fun q => (P.flatMap encIt)[q]?) (show t = t / 3 * 3 + 1 from by omega), e1]; rfl
    · rw [h, congrArg (fun q => (P.flatMap encIt)[q]?) (show t = t / 3 * 3 + 2 from by omega), e2]; rfl
  · rw [List.getElem?_eq_none (by simp; omega), List.getElem?_eq_none (by rw [enc_len]; omega)]

theorem sort_heap {w : World} {g m : Nat} {os : Array Obj} (d : Array It) {cur : Array Value} {e : TypeId} {fr : Nat × Nat} (hb : w.heap[g]? = some (.cells cur e fr)) :
    (sortWorldK encIt 3 w g 0 m d os).heap[g]? = some (.cells (putCells id 0 (flatK encIt 3 d) cur) e fr) := by
  unfold sortWorldK putRowK
  have hl : g < w.heap.size := (Array.getElem?_eq_some_iff.1 hb).1
  rw [heap_grow_old _ _ (by simpa using hl)]
  simp [putRow, mapBlock, Sort.ahead, Array.getElem?_modify, hb, onCells]
theorem sort_kept (w : World) (g m : Nat) (os : Array Obj) (d : Array It) : Kept (fun k => k = g) w (sortWorldK encIt 3 w g 0 m d os) := by
  refine ⟨rfl, rfl, rfl, by unfold sortWorldK putRowK; rw [size_grow, size_putRow]; exact Nat.le_add_right _ _, fun k hk hf => ?_⟩
  unfold sortWorldK putRowK
  rw [heap_grow_old _ _ (by simpa using hk)]
  have : g ≠ k := fun e => hf e.symm
  simp [putRow, mapBlock, Sort.ahead, Array.getElem?_modify, this]
theorem own_sorted {w : World} {B g n cap : Nat} {P P' : List It} (h : OwnIt w B (.slice (some ⟨g, 0, none⟩) n cap) P) (hl : P'.length = P.length) (m : Nat) (os : Array Obj) : OwnIt (sortWorldK encIt 3 w g 0 m P'.toArray os) B (.slice (some ⟨g, 0, none⟩) n cap) P' := by
  obtain ⟨h1, h2⟩ := h
  rcases h2 with ⟨e, _⟩ | ⟨g', cap', cur, e, hg, hh, hc, hm, hs, ht⟩
  · cases e
  · injection e with e1 e2 e3
    injection e1 with e1
    injection e1 with e1
    subst e1 e3
    refine ⟨enc_len _, .inr ⟨g, cap, _, by rw [hl, e2], hg, sort_heap _ hh, by omega, hm, by simp [putCells, hs], ?_⟩⟩
    rw [← flat_it P']
    apply List.ext_getElem?
    intro j
    by_cases hj : j < P'.length * 3
    · rw [List.getElem?_take_of_lt hj, Array.getElem?_toList, Array.getElem?_toList]
      have h3 : j < cur.size := by rw [hs]; omega
      simp [putCells, hj, h3]
    · rw [List.getElem?_take_eq_none (by omega), List.getElem?_eq_none (by simp; omega)]
theorem own_holds {w : World} {B g n cap : Nat} {P : List It} (h : OwnIt w B (.slice (some ⟨g, 0, none⟩) n cap) P) : HoldsK encIt 3 w g 0 P.toArray := by
  have hn : n = P.length := by
    rcases h.2 with ⟨e, _⟩ | ⟨_, _, _, e, _⟩
    · cases e
    · injection e
  subst hn
  intro j hj
  have hj' : j < P.length * 3 := by simpa using hj
  rw [Nat.zero_add]
  refine ⟨?_, h.frozenAt j⟩
  rw [h.cellAt j hj', ← flat_it P, Array.getElem?_toList, Array.getElem?_eq_getElem hj]
  congr 1
  show _ = (flatK encIt 3 P.toArray)[j]!
  rw [getElem!_pos (flatK encIt 3 P.toArray) j hj]

theorem cmp_lays (blk off size : Nat) (w : World) : CmpLays Try.prog 45 #[] encIt 3 ordI blk off size w := fun _ _ _ _ x y => order_any x y _

/-- slices.SortFunc by heap.order, at a slice of its own. -/
theorem sort_any {w : World} {B : Nat} {v : Value} {P S : List It} (h : OwnIt w B v P) (hs : Srt S) (hp : P.Perm S) (hu : Uniq P) (hlen : P.length ≤ 100000) (hB : B ≤ w.heap.size) :
    Calls Try.prog 47 #[v, .func (.func 45) #[] #[]] w fun e w' => e = .returned (.tuple #[]) ∧ OwnIt w' B v S ∧ Below B w w' := by
  rcases h.2 with ⟨rfl, hn⟩ | ⟨g, cap, cur, rfl, hg, hh, hc, _⟩
  · refine (AnyF.slices_SortFunc_none Try.sortIt none 0 _ w).mono ?_
    rintro e w' ⟨rfl, rfl⟩
    have hP : P = [] := List.eq_nil_of_length_eq_zero hn
    subst hP
    obtain rfl : S = [] := hp.nil_eq.symm
    exact ⟨rfl, h, Below.refl _ _⟩
  · have eg : ∀ args w, (callFunc 45 args).run Try.prog w = .ok (.enter 45 args) w := enters_of Try.func45 (by kernel_rfl) rfl
    have hcon := AnyQ.slices_SortFunc_total Try.sortIt 3 Try.isAgg31 Try.sizeOf31 encIt enc_three enc_one ordI swo 45 #[] g 0 cap P.toArray w eg (cmp_lays g 0 _ w) (own_holds h) (Array.getElem?_eq_some_iff.1 hh).1 (by simp; omega) parts
    rw [show P.toArray.toList = P from rfl, merge_srt hs hp hu, show P.toArray.size = P.length from by simp] at hcon
    change Calls Try.prog 47 _ _ _ at hcon
    refine hcon.mono ?_
    rintro e w' ⟨rfl, n, os, rfl⟩
    exact ⟨rfl, own_sorted h hp.symm.length_eq n os, (sort_kept w g n os _).below (fun k e => by rw [e]; exact hg) hB⟩
end Go.Proofs.Ytfflbbohgndjfaa
