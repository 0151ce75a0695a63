/-
  CommonFew: the mathematics of it.
-/
import Derived.Test.YtncdohbdmpfefaaCoAhead
namespace Go.Proofs.Ytncdohbdmpfefaa

/-- The timeout of the last Add of a number. -/
def lastA (l : List Cal) (id : Int) : Option Int := ((l.filter fun x => decide (x.k = 0 ∧ x.id = id)).getLast?).map (·.af)
/-- Is it of a timeout that isn't common? -/
def oth (l : List Cal) (T : List Int) (id : Int) : Bool := match lastA l id with
  | some a => decide (a ∉ T)
  | none => false
theorem lastA_split {M N : List Cal} {x : Cal} {id : Int} (hx : x.k = 0 ∧ x.id = id) (hN : ∀ y ∈ N, ¬ (y.k = 0 ∧ y.id = id)) : lastA (M ++ x :: N) id = some x.af := by
  unfold lastA
  rw [List.filter_append, List.filter_cons_of_pos (by simpa using hx), (List.filter_eq_nil_iff (l := N)).2 (fun y hy => by simpa using hN y hy)]
  simp
theorem lastA_snoc_ne {M : List Cal} {x : Cal} {id : Int} (hx : ¬ (x.k = 0 ∧ x.id = id)) : lastA (M ++ [x]) id = lastA M id := by
  unfold lastA
  rw [List.filter_append, List.filter_cons_of_neg (by simpa using hx)]
  simp
theorem lastA_none {l : List Cal} {id : Int} (h : ∀ y ∈ l, ¬ (y.k = 0 ∧ y.id = id)) : lastA l id = none := by
  unfold lastA
  rw [List.filter_eq_nil_iff.2 (fun y hy => by simpa using h y hy)]
  rfl
theorem oth_some {l : List Cal} {T : List Int} {id a : Int} (h : lastA l id = some a) : oth l T id = decide (a ∉ T) := by unfold oth; rw [h]
theorem oth_none {l : List Cal} {T : List Int} {id : Int} (h : lastA l id = none) : oth l T id = false := by unfold oth; rw [h]
theorem oth_snoc_ne {M : List Cal} {T : List Int} {x : Cal} {id : Int} (hx : ¬ (x.k = 0 ∧ x.id = id)) : oth (M ++ [x]) T id = oth M T id := by unfold oth; rw [lastA_snoc_ne hx]
/-- At index k stands its last Add. -/
theorem lastA_at {l : List Cal} {k : Nat} {x : Cal} {id : Int} (hk : l[k]? = some x) (hx : x.k = 0 ∧ x.id = id) (hN : ∀ j y, k < j → l[j]? = some y → ¬ (y.k = 0 ∧ y.id = id)) : lastA l id = some x.af := by
  obtain ⟨hlt, e⟩ := List.getElem?_eq_some_iff.1 hk
  have hs : l = l.take k ++ x :: l.drop (k + 1) := by
    rw [← e, ← List.drop_eq_getElem_cons hlt, List.take_append_drop]
  rw [hs]
  refine lastA_split hx fun y hy => ?_
  obtain ⟨j, hj⟩ := List.mem_iff_getElem?.1 hy
  rw [List.getElem?_drop] at hj
  exact hN _ y (by omega) hj
theorem lastA_all {l : List Cal} {id : Int} (hN : ∀ (j : Nat) y, l[j]? = some y → ¬ (y.k = 0 ∧ y.id = id)) : lastA l id = none := lastA_none fun y hy => by
  obtain ⟨j, hj⟩ := List.mem_iff_getElem?.1 hy
  exact hN j y hj

theorem dl_mono {a b t : Int} (h : a ≤ b) : dl a t ≤ dl b t := by
  unfold dl
  split <;> split <;> omega
structure FI (M : List Cal) (T : List Int) (L : List En) (nw : Int) : Prop where
  pos : ∀ e ∈ L, 0 ≤ e.x.id
  sp : ∀ e ∈ L, e.q = none → oth M T e.x.id = true
  le : ∀ e ∈ L, ∀ t, e.q = some t → e.x.d ≤ dl nw t
section
variable {M : List Cal} {T : List Int} {L L' : List En} {nw nw' nx : Int} {x : Cal}
theorem FI.nil : FI M T [] nw := ⟨fun e h => by simp at h, fun e h => by simp at h, fun e h => by simp at h⟩
theorem FI.sub (h : FI M T L nw) (hx : x.k ≠ 0) (hw : nw ≤ nw') (hs : ∀ e ∈ L', e ∈ L) : FI (M ++ [x]) T L' nw' :=
  ⟨fun e he => h.pos e (hs e he), fun e he hq => by rw [oth_snoc_ne (fun e => hx e.1)]; exact h.sp e (hs e he) hq, fun e he t ht => Int.le_trans (h.le e (hs e he) t ht) (dl_mono hw)⟩
theorem FI.add (h : FI M T L nw) (hx : x.k = 0) (hw : nw ≤ nw') : FI (M ++ [x]) T (addT L T nx x.id nw' x.af) nw' := by
  unfold addT
  split
  · rename_i hneg
    exact ⟨h.pos, fun e he hq => by rw [oth_snoc_ne (fun e1 => by have := h.pos e he; omega)]; exact h.sp e he hq, fun e he t ht => Int.le_trans (h.le e he t ht) (dl_mono hw)⟩
  · rename_i hneg
    have hcut : ∀ e ∈ cutL x.id L, e.x.d ≤ e.x.d ∧ e ∈ L ∧ e.x.id ≠ x.id := fun e he => ⟨Int.le_refl _, cutL_mem.1 he⟩
    unfold addL
    refine ⟨fun e he => ?_, fun e he hq => ?_, fun e he t ht => ?_⟩
    · rcases List.mem_append.1 he with he | he
      · exact h.pos e (hcut e he).2.1
      · simp at he; subst he; show 0 ≤ x.id; omega
    · rcases List.mem_append.1 he with he | he
      · rw [oth_snoc_ne (fun e1 => (hcut e he).2.2 e1.2.symm)]
        exact h.sp e (hcut e he).2.1 hq
      · simp at he
        subst he
        have hq' : newQ (cutL x.id L) T x.af (dl nw' x.af) = none := hq
        have hl : lastA (M ++ [x]) x.id = some x.af := lastA_split ⟨hx, rfl⟩ (fun y hy => by simp at hy)
        show oth (M ++ [x]) T x.id = true
        rw [oth_some hl]
        simp only [decide_eq_true_eq]
        intro hT
        unfold newQ at hq'
        rw [if_pos ⟨hT, fun e he hq => Int.le_trans (h.le e (hcut e he).2.1 _ hq) (dl_mono hw)⟩] at hq'
        cases hq'
    · rcases List.mem_append.1 he with he | he
      · exact Int.le_trans (h.le e (hcut e he).2.1 t ht) (dl_mono hw)
      · simp at he
        subst he
        have hq' : newQ (cutL x.id L) T x.af (dl nw' x.af) = some t := ht
        obtain ⟨rfl, _⟩ := newQ_some hq'
        exact Int.le_refl _
theorem few_le {l : List Cal} (h : FI l T L nw) : (heads L T).length ≤ T.length + ((ord (xs L)).filter fun x => oth l T x.id).length := by
  unfold heads
  rw [List.length_append]
  have h1 := List.length_filterMap_le (fun t => (ofQ L t).head?) T
  have h2 : ((ord (xs L)).filter fun x => oth l T x.id).length = (L.filter fun e => oth l T e.x.id).length := by
    rw [((ord_perm (xs L)).filter _).length_eq]
    unfold xs
    rw [List.filter_map, List.length_map]; rfl
  have h3 : (sep L).length ≤ (L.filter fun e => oth l T e.x.id).length := by
    unfold sep
    rw [← List.countP_eq_length_filter, ← List.countP_eq_length_filter]
    exact List.countP_mono_left fun e he hq => h.sp e he (by simpa using hq)
  omega
end
/-- What Common makes common of some timeouts. -/
structure Tc (zs : List Int) (k : Nat) (T : List Int) : Prop where
  mem : ∀ t, t ∈ T ↔ t ∈ zs.take k ∧ t ≠ 18446744073709551615
  len : T.length ≤ k
theorem Tc.step {zs T : List Int} {k : Nat} {x : Int} (h : Tc zs k T) (hx : zs[k]? = some x) (hk : k < 10) :
    (comE T x = 90 ∧ comT T x = T ∧ Tc zs (k + 1) T) ∨ (comE T x = 0 ∧ comT T x = T ++ [x] ∧ Tc zs (k + 1) (T ++ [x])) := by
  have ht : zs.take (k + 1) = zs.take k ++ [x] := by rw [List.take_add_one, hx]; rfl
  by_cases hc : x = 18446744073709551615 ∨ x ∈ T ∨ T.length = 32
  · left
    refine ⟨if_pos hc, if_pos hc, fun t => ?_, by have := h.len; omega⟩
    rw [ht, h.mem]
    constructor
    · rintro ⟨h1, h2⟩
      exact ⟨List.mem_append_left _ h1, h2⟩
    · rintro ⟨h1, h2⟩
      rcases List.mem_append.1 h1 with h1 | h1
      · exact ⟨h1, h2⟩
      · simp at h1
        subst h1
        rcases hc with hc | hc | hc
        · exact absurd hc h2
        · exact (h.mem _).1 hc
        · have := h.len; omega
  · right
    refine ⟨if_neg hc, if_neg hc, fun t => ?_, by have := h.len; simp; omega⟩
    rw [ht, List.mem_append, List.mem_append, h.mem]
    simp only [List.mem_singleton]
    constructor
    · rintro (⟨h1, h2⟩ | rfl)
      · exact ⟨.inl h1, h2⟩
      · exact ⟨.inr rfl, fun e => hc (.inl e)⟩
    · rintro ⟨h1 | rfl, h2⟩
      · exact .inl ⟨h1, h2⟩
      · exact .inr rfl
/-- Behind k rounds of the innermost loop. -/
def shr (zs : List Int) (k : Nat) (a : Int) : Bool := decide (a ∈ zs.take k ∧ a ≠ 18446744073709551615)
theorem shr_zero {zs : List Int} {a : Int} : shr zs 0 a = false := by simp [shr]
theorem shr_step {zs : List Int} {k : Nat} {x a : Int} (hx : zs[k]? = some x) : shr zs (k + 1) a = (shr zs k a || ((x == a) && !(x == 18446744073709551615))) := by
  have ht : zs.take (k + 1) = zs.take k ++ [x] := by rw [List.take_add_one, hx]; rfl
  unfold shr
  rw [ht]
  by_cases h1 : x = a
  · subst h1
    by_cases h2 : x = 18446744073709551615 <;> simp [h2]
  · have h1' : ¬ a = x := fun e => h1 e.symm
    simp [h1, h1']
theorem shr_all {zs T : List Int} {a : Int} (h : Tc zs zs.length T) : shr zs zs.length a = decide (a ∈ T) := by
  unfold shr
  rw [List.take_length]
  have := h.mem a
  rw [List.take_length] at this
  by_cases h1 : a ∈ T
  · simp [h1, this.1 h1]
  · have h2 : ¬ (a ∈ zs ∧ a ≠ 18446744073709551615) := fun e => h1 (this.2 e)
    rw [decide_eq_false h1, decide_eq_false h2]
theorem cnt_step {D : List It} {k : Nat} {d : It} (p : It → Bool) (hd : D[k]? = some d) : ((D.take (k + 1)).filter p).length = ((D.take k).filter p).length + if p d then 1 else 0 := by
  rw [List.take_add_one, hd, List.filter_append, List.length_append]
  congr 1
  cases h : p d <;> simp [h]
end Go.Proofs.Ytncdohbdmpfefaa
