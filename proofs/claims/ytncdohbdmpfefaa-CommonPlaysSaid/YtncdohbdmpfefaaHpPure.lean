/-
  Items and their order; lists of items that are heaps: how an item that is laid at a place rises and sinks. No program.
-/
import Init
namespace Go.Proofs.Ytncdohbdmpfefaa

/-- An item: its number, its deadline, and by what it stands behind others of the same one. -/
structure It where
  id : Int
  d : Int
  n : Int
  deriving DecidableEq, Inhabited

/-- An item's three fields are numbers of their kinds. -/
def It.Ok (x : It) : Prop := (-9223372036854775808 ≤ x.id ∧ x.id ≤ 9223372036854775807) ∧ (0 ≤ x.d ∧ x.d ≤ 18446744073709551615) ∧ (0 ≤ x.n ∧ x.n ≤ 18446744073709551615)

instance (x : It) : Decidable x.Ok := by unfold It.Ok; infer_instance

/-- As cmp.Compare says it. -/
def cmpI (a b : Int) : Int := if a < b then -1 else if b < a then 1 else 0
/-- The first of three that is not 0. -/
def orI (a b c : Int) : Int := if a = 0 then (if b = 0 then c else b) else a
def ordI (x y : It) : Int := orI (cmpI x.d y.d) (cmpI x.n y.n) (cmpI x.id y.id)

/-- One item stands ahead of another one. -/
def Lt (x y : It) : Prop := x.d < y.d ∨ (x.d = y.d ∧ (x.n < y.n ∨ (x.n = y.n ∧ x.id < y.id)))
instance (x y : It) : Decidable (Lt x y) := by unfold Lt; infer_instance
def Le (x y : It) : Prop := ¬ Lt y x

theorem ord_lt (x y : It) : ordI x y < 0 ↔ Lt x y := by
  unfold ordI orI cmpI Lt
  by_cases h1 : x.d < y.d
  · simp [h1]
  · by_cases h2 : y.d < x.d
    · have : x.d ≠ y.d := by omega
      simp [h1, h2, this]
    · have e : x.d = y.d := by omega
      simp only [e, Int.lt_irrefl, if_false, false_or, true_and, if_true]
      by_cases h3 : x.n < y.n
      · simp [h3]
      · by_cases h4 : y.n < x.n
        · have : x.n ≠ y.n := by omega
          simp [h3, h4, this]
        · have e' : x.n = y.n := by omega
          simp only [e', Int.lt_irrefl, if_false, false_or, true_and, if_true]
          by_cases h5 : x.id < y.id
          · simp [h5]
          · by_cases h6 : y.id < x.id <;> simp [h5, h6]
theorem lt_irrefl (x : It) : ¬ Lt x x := by unfold Lt; omega
theorem lt_trans {x y z : It} (h : Lt x y) (k : Lt y z) : Lt x z := by unfold Lt at *; omega
theorem lt_le {x y : It} (h : Lt x y) : Le x y := by unfold Le; intro k; exact lt_irrefl _ (lt_trans h k)
theorem le_trans' {x y z : It} (h : Le x y) (k : Le y z) : Le x z := by unfold Le Lt at *; omega
theorem le_refl' (x : It) : Le x x := lt_irrefl x
theorem lt_or (x y : It) : Lt x y ∨ x = y ∨ Lt y x := by
  obtain ⟨a, b, c⟩ := x
  obtain ⟨a', b', c'⟩ := y
  unfold Lt
  simp only [It.mk.injEq]
  omega
theorem lt_of_le_ne {x y : It} (h : Le x y) (hne : x.id ≠ y.id) : Lt x y := by
  rcases lt_or x y with h1 | h1 | h1
  · exact h1
  · exact absurd (by rw [h1]) hne
  · exact absurd h1 h
theorem ord_ne_zero {x y : It} (h : x.id ≠ y.id) : ordI x y ≠ 0 := by
  unfold ordI orI cmpI
  by_cases h1 : x.d < y.d
  · simp [h1]
  · by_cases h2 : y.d < x.d
    · simp [h1, h2]
    · simp only [h1, h2, if_false, if_true]
      by_cases h3 : x.n < y.n
      · simp [h3]
      · by_cases h4 : y.n < x.n
        · simp [h3, h4]
        · simp only [h3, h4, if_false, if_true]
          by_cases h5 : x.id < y.id
          · simp [h5]
          · simp [h5, show y.id < x.id from by omega]

/-- The item at a place. -/
def itAt (L : List It) (j : Nat) : It := L.getD j default
theorem itAt_set (L : List It) (i j : Nat) (x : It) (hi : i < L.length) : itAt (L.set i x) j = if j = i then x else itAt L j := by
  unfold itAt
  rw [List.getD_eq_getElem?_getD, List.getD_eq_getElem?_getD, List.getElem?_set]
  by_cases h : j = i
  · subst h; simp [hi]
  · rw [if_neg (fun e => h e.symm), if_neg h]
theorem itAt_some {L : List It} {j : Nat} (h : j < L.length) : L[j]? = some (itAt L j) := by
  unfold itAt
  rw [List.getD_eq_getElem?_getD, List.getElem?_eq_getElem h]
  rfl
theorem itAt_of {L : List It} {j : Nat} {x : It} (h : L[j]? = some x) : itAt L j = x := by
  unfold itAt
  rw [List.getD_eq_getElem?_getD, h]
  rfl
theorem itAt_mem {L : List It} {j : Nat} (h : j < L.length) : itAt L j ∈ L := List.mem_of_getElem? (itAt_some h)
/-- Two lists of one length with the same items at the same places are one. -/
theorem ext_at {L M : List It} (hl : L.length = M.length) (h : ∀ j, j < L.length → itAt L j = itAt M j) : L = M := by
  apply List.ext_getElem? 
  intro j
  by_cases hj : j < L.length
  · rw [itAt_some hj, itAt_some (hl ▸ hj), h j hj]
  · rw [List.getElem?_eq_none (by omega), List.getElem?_eq_none (by omega)]

/-- Two items exchanged. -/
def swp (L : List It) (i j : Nat) : List It := (L.set i (itAt L j)).set j (itAt L i)
theorem swp_len (L : List It) (i j : Nat) : (swp L i j).length = L.length := by simp [swp]
theorem swp_at (L : List It) (i j k : Nat) (hi : i < L.length) (hj : j < L.length) : itAt (swp L i j) k = if k = j then itAt L i else if k = i then itAt L j else itAt L k := by
  unfold swp
  rw [itAt_set _ _ _ _ (by simpa using hj), itAt_set _ _ _ _ hi]
theorem set_perm_cons : ∀ (L : List It) (i : Nat) (x : It), i < L.length → (itAt L i :: L.set i x).Perm (x :: L) := by
  intro L
  induction L with
  | nil => intro i x h; simp at h
  | cons y L ih =>
    intro i x h
    cases i with
    | zero => simp [itAt]; exact List.Perm.swap _ _ _
    | succ i =>
      have := ih i x (by simpa using h)
      simp only [itAt, List.getD_cons_succ, List.set_cons_succ] at this ⊢
      exact (List.Perm.swap _ _ _).trans ((this.cons y).trans (List.Perm.swap _ _ _))
theorem swp_perm (L : List It) (i j : Nat) (hi : i < L.length) (hj : j < L.length) : (swp L i j).Perm L := by
  by_cases e : i = j
  · subst e
    have : swp L i i = L := ext_at (swp_len _ _ _) fun k hk => by rw [swp_at _ _ _ _ hi hj]; by_cases h : k = i <;> simp [h]
    rw [this]
  · have h1 := set_perm_cons L i (itAt L j) hi
    have h2 := set_perm_cons (L.set i (itAt L j)) j (itAt L i) (by simpa using hj)
    rw [itAt_set _ _ _ _ hi, if_neg (fun h => e h.symm)] at h2
    exact (h2.trans h1).cons_inv

/-- The place above. -/
abbrev up (j : Nat) : Nat := (j - 1) / 2
theorem up_lt {j : Nat} (h : 0 < j) : up j < j := by show (j - 1) / 2 < j; omega
/-- A list that is a heap. -/
def HeapL (L : List It) : Prop := ∀ j, 0 < j → j < L.length → Le (itAt L (up j)) (itAt L j)

/-- While the item at i rises, from i0 on. -/
structure Rising (L : List It) (i0 i : Nat) : Prop where
  a : ∀ j, 0 < j → j < L.length → j ≠ i → up j ≠ i → Le (itAt L (up j)) (itAt L j)
  b : ∀ c, 0 < c → c < L.length → up c = i → 0 < i → Le (itAt L (up i)) (itAt L c)
  c : i ≠ i0 → ∀ c, 0 < c → c < L.length → up c = i → Le (itAt L i) (itAt L c)
/-- While the item at i sinks. -/
structure Sinking (L : List It) (i : Nat) : Prop where
  a : ∀ j, 0 < j → j < L.length → up j ≠ i → Le (itAt L (up j)) (itAt L j)
  b : ∀ c, 0 < c → c < L.length → up c = i → 0 < i → Le (itAt L (up i)) (itAt L c)

theorem rising_start {L : List It} (h : HeapL L) (i : Nat) (x : It) (hi : i < L.length) : Rising (L.set i x) i i := by
  refine ⟨fun j h0 hj hji hup => ?_, fun c h0 hc hup hi0 => ?_, fun e => absurd rfl e⟩
  · rw [itAt_set _ _ _ _ hi, itAt_set _ _ _ _ hi, if_neg hji, if_neg hup]
    exact h j h0 (by simpa using hj)
  · have u1 := up_lt hi0
    have u2 := up_lt h0
    rw [itAt_set _ _ _ _ hi, itAt_set _ _ _ _ hi, if_neg (by omega), if_neg (by omega)]
    have h1 := h c h0 (by simpa using hc)
    have h2 := h i hi0 hi
    rw [hup] at h1
    exact le_trans' h2 h1
theorem rising_step {L : List It} {i0 i : Nat} (h : Rising L i0 i) (hi0 : 0 < i) (hi : i < L.length) (hl : ¬ Lt (itAt L (up i)) (itAt L i)) (hle : i ≤ i0) : Rising (swp L i (up i)) i0 (up i) := by
  have hp : up i < i := by show (i - 1) / 2 < i; omega
  have hpl : up i < L.length := by omega
  refine ⟨fun j h0 hj hji hup => ?_, fun c h0 hc hup hp0 => ?_, fun _ c h0 hc hup => ?_⟩
  · rw [swp_len] at hj
    rw [swp_at _ _ _ _ hi hpl, swp_at _ _ _ _ hi hpl, if_neg hji, if_neg hup]
    have hji' : j ≠ i := fun e => hup (by rw [e])
    rw [if_neg hji']
    by_cases e : up j = i
    · rw [if_pos e]; exact h.b j h0 hj e hi0
    · rw [if_neg e]; exact h.a j h0 hj hji' e
  · rw [swp_len] at hc
    have hpp : up (up i) < up i := by show (up i - 1) / 2 < up i; omega
    have hA := h.a (up i) hp0 hpl (by omega) (by omega)
    rw [swp_at _ _ _ _ hi hpl, swp_at _ _ _ _ hi hpl, if_neg (by omega), if_neg (by omega), if_neg (by intro e; rw [e] at hup; omega)]
    by_cases e : c = i
    · rw [if_pos e]; exact hA
    · rw [if_neg e]
      have := h.a c h0 hc e (by omega)
      rw [hup] at this
      exact le_trans' hA this
  · rw [swp_len] at hc
    rw [swp_at _ _ _ _ hi hpl, swp_at _ _ _ _ hi hpl, if_pos rfl]
    have hc' : c ≠ up i := by intro e; have := up_lt h0; omega
    rw [if_neg hc']
    by_cases e : c = i
    · rw [if_pos e]; exact hl
    · rw [if_neg e]
      have := h.a c h0 hc e (by omega)
      rw [hup] at this
      exact le_trans' hl this
theorem rising_end {L : List It} {i0 i : Nat} (h : Rising L i0 i) (hi : i < L.length) (hl : 0 < i → Lt (itAt L (up i)) (itAt L i)) : Sinking L i0 := by
  by_cases e : i = i0
  · subst e
    refine ⟨fun j h0 hj hup => ?_, h.b⟩
    by_cases ej : j = i
    · rw [ej]; exact lt_le (hl (by omega))
    · exact h.a j h0 hj ej hup
  · have hp : HeapL L := fun j h0 hj => by
      by_cases ej : j = i
      · rw [ej]; exact lt_le (hl (by omega))
      · by_cases eu : up j = i
        · rw [eu]; exact h.c e j h0 hj eu
        · exact h.a j h0 hj ej eu
    refine ⟨fun j h0 hj _ => hp j h0 hj, fun c h0 hc hup hi0 => ?_⟩
    have h1 := hp c h0 hc
    rw [hup] at h1
    exact le_trans' (hp i0 hi0 (by have := up_lt h0; omega)) h1
theorem sinking_step {L : List It} {i c : Nat} (h : Sinking L i) (hc0 : 0 < c) (hc : c < L.length) (hup : up c = i) (hmin : ∀ d, 0 < d → d < L.length → up d = i → Le (itAt L c) (itAt L d)) (hl : ¬ Lt (itAt L i) (itAt L c)) : Sinking (swp L i c) c := by
  have hci : i < c := by have := up_lt hc0; omega
  have hi : i < L.length := by omega
  refine ⟨fun j h0 hj hupj => ?_, fun d h0 hd hupd _ => ?_⟩
  · rw [swp_len] at hj
    rw [swp_at _ _ _ _ hi hc, swp_at _ _ _ _ hi hc, if_neg hupj]
    by_cases ej : j = c
    · rw [if_pos ej, ej, if_pos hup]; exact hl
    · rw [if_neg ej]
      by_cases eu : up j = i
      · rw [if_pos eu]
        have : j ≠ i := by intro e; have := up_lt h0; omega
        rw [if_neg this]
        exact hmin j h0 hj eu
      · rw [if_neg eu]
        by_cases ei : j = i
        · rw [if_pos ei]
          rw [ei]
          exact h.b c hc0 hc hup (by omega)
        · rw [if_neg ei]; exact h.a j h0 hj eu
  · rw [swp_len] at hd
    have hdc : c < d := by have := up_lt h0; omega
    rw [swp_at _ _ _ _ hi hc, swp_at _ _ _ _ hi hc, hup, if_neg (by omega), if_pos rfl, if_neg (by omega), if_neg (by omega)]
    have := h.a d h0 hd (by omega)
    rw [hupd] at this
    exact this
theorem sinking_end {L : List It} {i : Nat} (h : Sinking L i) (hl : ∀ c, 0 < c → c < L.length → up c = i → Le (itAt L i) (itAt L c)) : HeapL L := fun j h0 hj => by
  by_cases e : up j = i
  · rw [e]; exact hl j h0 hj e
  · exact h.a j h0 hj e
/-- The children of i: 2i+1 and 2i+2. -/
theorem up_child {c i : Nat} (h0 : 0 < c) : up c = i ↔ c = 2 * i + 1 ∨ c = 2 * i + 2 := by show (c - 1) / 2 = i ↔ _; omega
theorem heap_root {L : List It} (h : HeapL L) : ∀ j, j < L.length → Le (itAt L 0) (itAt L j) := by
  intro j
  induction j using Nat.strongRecOn with
  | _ j ih =>
    intro hj
    by_cases h0 : j = 0
    · rw [h0]; exact le_refl' _
    · have hu : up j < j := by show (j - 1) / 2 < j; omega
      exact le_trans' (ih (up j) hu (by omega)) (h j (by omega) hj)
theorem heap_take {L : List It} (h : HeapL L) (n : Nat) : HeapL (L.take n) := fun j h0 hj => by
  have hu : up j < j := by show (j - 1) / 2 < j; omega
  have hj' : j < n ∧ j < L.length := by simp at hj; omega
  have e : ∀ k, k < n → itAt (L.take n) k = itAt L k := fun k hk => by
    unfold itAt
    rw [List.getD_eq_getElem?_getD, List.getD_eq_getElem?_getD, List.getElem?_take, if_pos hk]
  rw [e _ hj'.1, e _ (by omega)]
  exact h j h0 hj'.2
end Go.Proofs.Ytncdohbdmpfefaa
