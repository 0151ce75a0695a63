/-
  The reference's Ahead: which of two items stands ahead; what is due, in order.
-/
import Derived.Test.YtncdohbdmpfefaaCoLeaves
import Derived.Shelf.SlSortCmp.QuietGrown
import Derived.WalkMore
namespace Go.Proofs.Ytncdohbdmpfefaa
open Go.RowKit Go.Maps Go.ChangeMaps Go.Sort

/-- Which of two items stands ahead, by time and number alone. -/
def Ah (x y : It) : Bool := decide (x.d < y.d ∨ (x.d = y.d ∧ x.n < y.n))
set_option maxHeartbeats 2000000 in
set_option maxRecDepth 100000 in
theorem rahead_any (x y : It) (b : Bool) (hb : b = Ah x y) (w : World) : Calls Try.prog 27 #[.agg #[.int .i64 x.id, .int .u64 x.d, .int .u64 x.n], .agg #[.int .i64 y.id, .int .u64 y.d, .int .u64 y.n]] w fun e w' => e = .returned (.bool b) ∧ ∃ q os', w' = grow (w.drewN q) os' := by
  obtain ⟨i, d, n⟩ := x
  obtain ⟨i', d', n'⟩ := y
  unfold Ah at hb
  dsimp only at hb
  by_cases h1 : d < d'
  · obtain rfl : b = true := by rw [hb]; simp [h1]
    clear hb
    go_enter Try.func27, Try.ntmps27
    go_wp2
    go_ret
    exact ⟨rfl, 0, _, by simp only [alloc_eq_grow, grow_grow]; rfl⟩
  · by_cases h2 : d = d'
    · subst h2
      have e1 : (d == d) = true := by simp
      by_cases h3 : n < n'
      · obtain rfl : b = true := by rw [hb]; simp [h3]
        clear hb
        go_enter Try.func27, Try.ntmps27
        go_wp2
        go_ret
        exact ⟨rfl, 0, _, by simp only [alloc_eq_grow, grow_grow]; rfl⟩
      · obtain rfl : b = false := by rw [hb]; simp [h3]
        clear hb
        go_enter Try.func27, Try.ntmps27
        go_wp2
        go_ret
        exact ⟨rfl, 0, _, by simp only [alloc_eq_grow, grow_grow]; rfl⟩
    · obtain rfl : b = false := by rw [hb]; simp [h1, h2]
      have e1 : (d == d') = false := by simpa using h2
      clear hb h2
      go_enter Try.func27, Try.ntmps27
      go_wp2
      go_ret
      exact ⟨rfl, 0, _, by simp only [alloc_eq_grow, grow_grow]; rfl⟩
theorem rahead_grown (x y : It) (b : Bool) (hb : b = Ah x y) (w : World) (n : Nat) (os : Array Obj) : Calls Try.prog 27 #[.agg #[.int .i64 x.id, .int .u64 x.d, .int .u64 x.n], .agg #[.int .i64 y.id, .int .u64 y.d, .int .u64 y.n]] (grow (w.drewN n) os) fun e w'' =>
    e = .returned (.bool b) ∧ ∃ p : GrownBy, w'' = grow (w.drewN p.n) p.os := Calls.grown_of (rahead_any x y b hb _)

section
variable {L : List En} {T : List Int} {nx now : Int}
theorem uniq_cut {k : Int} (h : Uniq (xs L)) : Uniq (xs (cutL k L)) := by
  rw [xs_cut]
  unfold Uniq del at *
  exact h.sublist ((List.filter_sublist).map _)
theorem cutAll_ord : ∀ (D R : List It) (L : List En), Uniq (xs L) → D ++ R = ord (xs L) → ord (xs (cutAll D L)) = R
  | [], R, L, _, h => h.symm
  | x :: D, R, L, hu, h => by
    have hR := ord_del (k := x.id) hu
    rw [← xs_cut, ← h, List.cons_append] at hR
    have hu2 : Uniq (x :: (D ++ R)) := by
      have := hu.perm (ord_perm _)
      rw [← h] at this; exact this
    rw [del_head hu2] at hR
    exact cutAll_ord D R (cutL x.id L) (uniq_cut hu) hR.symm
theorem due_split : dueD now (xs L) ++ (ord (xs L)).dropWhile (fun x => decide (x.d ≤ now)) = ord (xs L) := List.takeWhile_append_dropWhile
theorem due_left (h : CInv L T nx) : ord (xs (cutAll (dueD now (xs L)) L)) = (ord (xs L)).dropWhile fun x => decide (x.d ≤ now) := cutAll_ord _ _ _ h.uniq due_split
theorem due_len (h : CInv L T nx) : (cutAll (dueD now (xs L)) L).length + (dueD now (xs L)).length = L.length := by
  have h1 := congrArg List.length (due_left (now := now) h)
  have h2 := congrArg List.length (due_split (L := L) (now := now))
  rw [ord_len, xs_len] at h1
  rw [List.length_append, ord_len, xs_len] at h2
  omega
theorem top_drop : ∀ l : List It, (topI (l.dropWhile fun x => decide (x.d ≤ now))).2 = true → now < (topI (l.dropWhile fun x => decide (x.d ≤ now))).1.d
  | [], h => by simp [topI] at h
  | x :: l, h => by
    by_cases hx : x.d ≤ now
    · rw [List.dropWhile_cons_of_pos (by simpa using hx)] at h ⊢
      exact top_drop l h
    · rw [List.dropWhile_cons_of_neg (by simpa using hx)]
      simp only [topI]; omega
theorem take_le : ∀ (l : List It), ∀ x ∈ l.takeWhile (fun x => decide (x.d ≤ now)), x.d ≤ now
  | [], x, h => by simp at h
  | y :: l, x, h => by
    by_cases hy : y.d ≤ now
    · rw [List.takeWhile_cons_of_pos (by simpa using hy)] at h
      rcases List.mem_cons.1 h with rfl | h
      · exact hy
      · exact take_le l x h
    · rw [List.takeWhile_cons_of_neg (by simpa using hy)] at h; simp at h
theorem cutAll_has : ∀ (D : List It) (L : List En) (d : It), d ∈ D → hasI (cutAll D L) d.id = false
  | [], _, _, h => by simp at h
  | x :: D, L, d, h => by
    rcases List.mem_cons.1 h with rfl | h
    · refine hasI_false.2 fun e he => ?_
      exact (cutL_mem.1 (cutAll_sub D (cutL d.id L) e he)).2
    · exact cutAll_has D _ d h
theorem n_inj : ∀ {L : List En}, L.Pairwise (fun a b => a.x.n < b.x.n) → ∀ {a b : En}, a ∈ L → b ∈ L → a.x.n = b.x.n → a = b
  | [], _, _, _, ha, _, _ => by simp at ha
  | c :: L, hn, a, b, ha, hb, h => by
    rw [List.pairwise_cons] at hn
    rcases List.mem_cons.1 ha with e1 | h2
    · rcases List.mem_cons.1 hb with e2 | h3
      · rw [e1, e2]
      · have := hn.1 b h3; rw [e1] at h; omega
    · rcases List.mem_cons.1 hb with e2 | h3
      · have := hn.1 a h2; rw [e2] at h; omega
      · exact n_inj hn.2 h2 h3 h
theorem lt_ah (h : CInv L T nx) {a b : It} (ha : a ∈ xs L) (hb : b ∈ xs L) (hl : Lt a b) : Ah a b = true := by
  obtain ⟨x, hx, rfl⟩ := List.mem_map.1 ha
  obtain ⟨y, hy, rfl⟩ := List.mem_map.1 hb
  by_cases hn : x.x.n = y.x.n
  · have := n_inj h.ns hx hy hn
    subst this
    exact absurd hl (lt_irrefl _)
  · unfold Ah
    unfold Lt at hl
    simp; omega
theorem due_mem {x : It} (h : x ∈ dueD now (xs L)) : x ∈ xs L := (ord_perm _).mem_iff.1 ((List.takeWhile_sublist _).subset h)
theorem due_srt (h : CInv L T nx) : Srt (dueD now (xs L)) := (ord_srt h.uniq).sublist (List.takeWhile_sublist _)
/-- One behind another one of what is due. -/
theorem due_ah (h : CInv L T nx) {p k : Nat} (hk : p + 1 = k) {a b : It} (ha : (dueD now (xs L))[p]? = some a) (hb : (dueD now (xs L))[k]? = some b) : Ah a b = true := by
  refine lt_ah h (due_mem (List.mem_of_getElem? ha)) (due_mem (List.mem_of_getElem? hb)) ?_
  obtain ⟨h1, e1⟩ := List.getElem?_eq_some_iff.1 ha
  obtain ⟨h2, e2⟩ := List.getElem?_eq_some_iff.1 hb
  have := List.pairwise_iff_getElem.1 (due_srt (now := now) h) p k h1 h2 (by omega)
  rw [e1, e2] at this; exact this
end
end Go.Proofs.Ytncdohbdmpfefaa
