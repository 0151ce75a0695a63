/-
  What a set of deadlines has: items with their queues, in the order in which they came; which of them stand in the heap. Plain mathematics.
-/
import Derived.Test.YtncdohbdmpfefaaHpTake
import Derived.Test.YtncdohbdmpfefaaCmRing
namespace Go.Proofs.Ytncdohbdmpfefaa

/-- An item, and the timeout of its queue if it stands in one. -/
structure En where
  x : It
  q : Option Int
deriving DecidableEq

/-- The items alone. -/
def xs (L : List En) : List It := L.map (·.x)
def hasI (L : List En) (k : Int) : Bool := L.any fun e => e.x.id == k
/-- Those of a queue, in order. -/
def ofQ (L : List En) (t : Int) : List En := L.filter fun e => decide (e.q = some t)
def sep (L : List En) : List En := L.filter fun e => decide (e.q = none)
/-- What stands in the heap: what is separate, and the first one of each queue. -/
def heads (L : List En) (T : List Int) : List En := sep L ++ T.filterMap fun t => (ofQ L t).head?
/-- Without the item of a number. -/
def cutL (k : Int) (L : List En) : List En := L.filter fun e => decide (e.x.id ≠ k)
/-- Which queue an item comes to. -/
def newQ (L : List En) (T : List Int) (t d : Int) : Option Int := if t ∈ T ∧ ∀ e ∈ L, e.q = some t → e.x.d ≤ d then some t else none
/-- An item more. -/
def addL (L : List En) (T : List Int) (x : It) (t : Int) : List En := cutL x.id L ++ [⟨x, newQ (cutL x.id L) T t x.d⟩]

structure CInv (L : List En) (T : List Int) (nx : Int) : Prop where
  ids : (L.map fun e => e.x.id).Nodup
  ok : ∀ e ∈ L, e.x.Ok
  ns : L.Pairwise fun a b => a.x.n < b.x.n
  bnd : ∀ e ∈ L, e.x.n < nx
  n0 : 0 ≤ nx ∧ nx ≤ 1000000
  qin : ∀ e ∈ L, ∀ t, e.q = some t → t ∈ T
  qs : L.Pairwise fun a b => a.q ≠ none → a.q = b.q → a.x.d ≤ b.x.d
  ts : T.Nodup
  t32 : T.length ≤ 32
  tr : ∀ t ∈ T, 0 ≤ t ∧ t < 18446744073709551615
  len : L.length ≤ 500

section
variable {L M N : List En} {T : List Int} {nx : Int} {e a b : En} {k t : Int}
theorem hasI_true : hasI L k = true ↔ ∃ e ∈ L, e.x.id = k := by simp [hasI]
theorem hasI_false : hasI L k = false ↔ ∀ e ∈ L, e.x.id ≠ k := by simp [hasI]
theorem ofQ_mem : e ∈ ofQ L t ↔ e ∈ L ∧ e.q = some t := by simp [ofQ]
theorem sep_mem : e ∈ sep L ↔ e ∈ L ∧ e.q = none := by simp [sep]
theorem cutL_mem : e ∈ cutL k L ↔ e ∈ L ∧ e.x.id ≠ k := by simp [cutL]
theorem ofQ_append : ofQ (M ++ N) t = ofQ M t ++ ofQ N t := by simp [ofQ]
theorem ofQ_cons_same (h : e.q = some t) : ofQ (e :: N) t = e :: ofQ N t := by simp [ofQ, h]
theorem ofQ_cons_ne (h : e.q ≠ some t) : ofQ (e :: N) t = ofQ N t := by simp [ofQ, h]
theorem sep_append : sep (M ++ N) = sep M ++ sep N := by simp [sep]
theorem sep_cons_same (h : e.q = none) : sep (e :: N) = e :: sep N := by simp [sep, h]
theorem sep_cons_ne (h : e.q ≠ none) : sep (e :: N) = sep N := by simp [sep, h]
theorem en_inj : ∀ {L : List En}, (L.map fun e => e.x.id).Nodup → ∀ {a b : En}, a ∈ L → b ∈ L → a.x.id = b.x.id → a = b
  | [], _, _, _, ha, _, _ => by simp at ha
  | c :: L, hn, a, b, ha, hb, h => by
    rw [List.map_cons, List.nodup_cons] at hn
    rcases List.mem_cons.1 ha with e1 | h2
    · rcases List.mem_cons.1 hb with e2 | h3
      · rw [e1, e2]
      · exact absurd (List.mem_map.2 ⟨b, h3, by rw [← h, e1]⟩) hn.1
    · rcases List.mem_cons.1 hb with e2 | h3
      · exact absurd (List.mem_map.2 ⟨a, h2, by rw [h, e2]⟩) hn.1
      · exact en_inj hn.2 h2 h3 h
theorem ids_split (h : ((M ++ e :: N).map fun e => e.x.id).Nodup) : (∀ y ∈ M, y.x.id ≠ e.x.id) ∧ (∀ y ∈ N, y.x.id ≠ e.x.id) ∧ ((M ++ N).map fun e => e.x.id).Nodup := by
  simp only [List.map_append, List.map_cons] at h ⊢
  have h2 : (e.x.id :: (M.map (fun e => e.x.id) ++ N.map fun e => e.x.id)).Nodup := (List.perm_middle.nodup_iff).1 h
  rw [List.nodup_cons] at h2
  refine ⟨fun y hy e2 => h2.1 ?_, fun y hy e2 => h2.1 ?_, h2.2⟩
  · rw [← e2]; exact List.mem_append_left _ (List.mem_map_of_mem (f := fun e : En => e.x.id) hy)
  · rw [← e2]; exact List.mem_append_right _ (List.mem_map_of_mem (f := fun e : En => e.x.id) hy)
theorem cutL_split (h : ((M ++ e :: N).map fun e => e.x.id).Nodup) : cutL e.x.id (M ++ e :: N) = M ++ N := by
  obtain ⟨h1, h2, _⟩ := ids_split h
  unfold cutL
  rw [List.filter_append, List.filter_cons_of_neg (by simp), List.filter_eq_self.2 (fun y hy => by simpa using h1 y hy), List.filter_eq_self.2 (fun y hy => by simpa using h2 y hy)]
theorem cutL_none (h : hasI L k = false) : cutL k L = L := List.filter_eq_self.2 fun y hy => by simpa using hasI_false.1 h y hy
theorem cutL_has : hasI (cutL k L) k = false := hasI_false.2 fun e he => (cutL_mem.1 he).2
theorem xs_cut : xs (cutL k L) = del k (xs L) := by
  unfold xs cutL del
  rw [List.filter_map]
  rfl
theorem xs_append : xs (M ++ N) = xs M ++ xs N := by simp [xs]
theorem CInv.uniq (h : CInv L T nx) : Uniq (xs L) := by
  unfold Uniq xs
  rw [List.map_map]
  exact h.ids

theorem fm_congr {α β : Type} {f g : α → Option β} : ∀ {l : List α}, (∀ s ∈ l, f s = g s) → l.filterMap f = l.filterMap g
  | [], _ => rfl
  | a :: l, h => by rw [List.filterMap_cons, List.filterMap_cons, h a (by simp), fm_congr fun s hs => h s (List.mem_cons_of_mem _ hs)]
/-- The timeout t, and the others. -/
theorem fm_split {f : Int → Option En} (ht : t ∈ T) : (T.filterMap f).Perm ((f t).toList ++ (T.erase t).filterMap f) := by
  have h := (List.perm_cons_erase ht).filterMap f
  rw [List.filterMap_cons] at h
  cases e : f t with
  | none => rw [e] at h; simpa using h
  | some y => rw [e] at h; simpa using h
theorem fm_rest {f g : Int → Option En} (hn : T.Nodup) (h : ∀ s, s ≠ t → f s = g s) : (T.erase t).filterMap f = (T.erase t).filterMap g := by
  refine fm_congr fun s hs => h s ?_
  rintro rfl
  exact (List.Nodup.not_mem_erase hn) hs
theorem ofQ_skip (h : ∀ t', e.q = some t' → t' ≠ t) : ofQ (M ++ e :: N) t = ofQ (M ++ N) t := by
  rw [ofQ_append, ofQ_append, ofQ_cons_ne fun e2 => h _ e2 rfl]
theorem heads_skip_none (h : e.q = none) : (heads (M ++ e :: N) T).Perm (e :: heads (M ++ N) T) := by
  unfold heads
  rw [sep_append, sep_append, sep_cons_same h, fm_congr fun s _ => by rw [ofQ_skip fun t' e2 => by rw [h] at e2; cases e2]]
  simp only [List.append_assoc, List.cons_append]
  exact List.perm_middle
/-- Another one of its queue stands ahead. -/
theorem heads_skip_mid (hq : e.q = some t) (h : ofQ M t ≠ []) : heads (M ++ e :: N) T = heads (M ++ N) T := by
  unfold heads
  rw [sep_append, sep_append, sep_cons_ne (by rw [hq]; simp)]
  congr 1
  refine fm_congr fun s _ => ?_
  by_cases e1 : s = t
  · subst e1
    rw [ofQ_append, ofQ_append]
    cases h1 : ofQ M s with
    | nil => exact absurd h1 h
    | cons z Z => rfl
  · rw [ofQ_skip fun t' e2 => by rw [hq] at e2; cases e2; exact fun e3 => e1 e3.symm]
/-- It is the first one of its queue. -/
theorem heads_skip_first (hn : T.Nodup) (ht : t ∈ T) (hq : e.q = some t) (h : ofQ M t = []) :
    ∃ R, (heads (M ++ e :: N) T).Perm (e :: R) ∧ (heads (M ++ N) T).Perm ((ofQ N t).head?.toList ++ R) := by
  refine ⟨sep (M ++ N) ++ (T.erase t).filterMap fun s => (ofQ (M ++ N) s).head?, ?_, ?_⟩
  · unfold heads
    refine ((fm_split ht).append_left _).trans ?_
    rw [fm_rest (g := fun s => (ofQ (M ++ N) s).head?) hn (fun s hs => by rw [ofQ_skip fun t' e2 => by rw [hq] at e2; cases e2; exact fun e3 => hs e3.symm]), ofQ_append, h, ofQ_cons_same hq, sep_append, sep_append, sep_cons_ne (by rw [hq]; simp)]
    simp only [List.nil_append, List.head?_cons, Option.toList_some, List.singleton_append]
    exact List.perm_middle
  · unfold heads
    refine ((fm_split ht).append_left _).trans ?_
    rw [ofQ_append, h, List.nil_append, ← List.append_assoc, ← List.append_assoc]
    exact List.perm_append_comm.append_right _

theorem heads_sub (h : e ∈ heads L T) : e ∈ L := by
  rcases List.mem_append.1 h with h | h
  · exact (sep_mem.1 h).1
  · obtain ⟨t, _, h⟩ := List.mem_filterMap.1 h
    exact (ofQ_mem.1 (List.mem_of_mem_head? h)).1
theorem heads_len (h : CInv L T nx) : (heads L T).length ≤ 532 := by
  unfold heads sep
  rw [List.length_append]
  have h1 := List.length_filter_le (fun e : En => decide (e.q = none)) L
  have h2 := List.length_filterMap_le (fun t => (ofQ L t).head?) T
  have := h.t32; have := h.len
  omega
theorem heads_mid_not (hn : ((M ++ e :: N).map fun e => e.x.id).Nodup) (hq : e.q = some t) (h : ofQ M t ≠ []) : ∀ y ∈ heads (M ++ e :: N) T, y.x.id ≠ e.x.id := by
  intro y hy e1
  have he : e ∈ M ++ e :: N := by simp
  have := en_inj hn (heads_sub hy) he e1
  subst this
  rcases List.mem_append.1 hy with hy | hy
  · rw [(sep_mem.1 hy).2] at hq; cases hq
  · obtain ⟨s, _, hs⟩ := List.mem_filterMap.1 hy
    have h1 := (ofQ_mem.1 (List.mem_of_mem_head? hs)).2
    rw [hq] at h1
    cases h1
    rw [ofQ_append] at hs
    cases h1 : ofQ M t with
    | nil => exact absurd h1 h
    | cons z Z =>
      rw [h1] at hs
      simp at hs
      subst hs
      exact (ids_split hn).1 z ((ofQ_mem.1 (show z ∈ ofQ M t by rw [h1]; simp)).1) rfl

/-- An item comes at the end. -/
theorem heads_add_none (h : e.q = none) : (heads (L ++ [e]) T).Perm (e :: heads L T) := by
  have := heads_skip_none (M := L) (N := []) (T := T) h
  rwa [List.append_nil] at this
theorem heads_add_more (hq : e.q = some t) (h : ofQ L t ≠ []) : heads (L ++ [e]) T = heads L T := by
  have := heads_skip_mid (M := L) (N := []) (T := T) hq h
  rwa [List.append_nil] at this
theorem heads_add_first (hn : T.Nodup) (ht : t ∈ T) (hq : e.q = some t) (h : ofQ L t = []) : (heads (L ++ [e]) T).Perm (e :: heads L T) := by
  obtain ⟨R, h1, h2⟩ := heads_skip_first (M := L) (N := []) hn ht hq h
  rw [List.append_nil] at h2
  exact h1.trans (h2.symm.cons e)
theorem heads_common (h : ∀ e ∈ L, ∀ s, e.q = some s → s ∈ T) (ht : t ∉ T) : heads L (T ++ [t]) = heads L T := by
  unfold heads
  have : ofQ L t = [] := by
    rw [List.eq_nil_iff_forall_not_mem]
    intro e he
    exact ht (h e (ofQ_mem.1 he).1 t (ofQ_mem.1 he).2)
  rw [List.filterMap_append]
  simp [this]

/-- Items in order. -/
def ord (l : List It) : List It := l.foldr ins []
theorem ord_perm : ∀ l : List It, (ord l).Perm l
  | [] => List.Perm.refl _
  | x :: l => (ins_perm x (ord l)).trans ((ord_perm l).cons x)
theorem ord_srt : ∀ {l : List It}, Uniq l → Srt (ord l)
  | [], _ => List.Pairwise.nil
  | x :: l, h => by
    unfold Uniq at h
    rw [List.map_cons, List.nodup_cons] at h
    refine ins_srt (ord_srt h.2) fun y hy e => h.1 ?_
    rw [← e]
    exact List.mem_map_of_mem ((ord_perm l).mem_iff.1 hy)
theorem ord_eq {S l : List It} (hu : Uniq l) (hs : Srt S) (hp : S.Perm l) : ord l = S := srt_unique (ord_srt hu) hs ((ord_perm l).trans hp.symm)
theorem ord_del {k : Int} {l : List It} (hu : Uniq l) : ord (del k l) = del k (ord l) := by
  have hp : (del k (ord l)).Perm (del k l) := (ord_perm l).filter _
  refine ord_eq ?_ (del_srt (ord_srt hu)) hp
  unfold Uniq del at *
  exact hu.sublist ((List.filter_sublist).map _)

/-- The first one in the heap is the first one of all. -/
theorem top_first (h : CInv L T nx) {S : List It} (hs : Srt S) (hp : S.Perm (xs (heads L T))) : (S = [] ∧ L = []) ∨ ∃ x R R', S = x :: R ∧ ord (xs L) = x :: R' := by
  have hall : ∀ e ∈ L, ∃ z ∈ heads L T, z = e ∨ Lt z.x e.x := by
    intro e he
    cases hq : e.q with
    | none => exact ⟨e, List.mem_append_left _ (sep_mem.2 ⟨he, hq⟩), .inl rfl⟩
    | some t =>
      have ht := h.qin e he t hq
      have heq : e ∈ ofQ L t := ofQ_mem.2 ⟨he, hq⟩
      cases hz : ofQ L t with
      | nil => rw [hz] at heq; simp at heq
      | cons z Z =>
        refine ⟨z, List.mem_append_right _ (List.mem_filterMap.2 ⟨t, ht, by rw [hz]; rfl⟩), ?_⟩
        rw [hz] at heq
        rcases List.mem_cons.1 heq with e1 | e1
        · exact .inl e1.symm
        · right
          have hn : (ofQ L t).Pairwise fun a b => a.x.n < b.x.n := h.ns.filter _
          have hd : (ofQ L t).Pairwise fun a b => a.q ≠ none → a.q = b.q → a.x.d ≤ b.x.d := h.qs.filter _
          have hzq : z.q = some t := (ofQ_mem.1 (show z ∈ ofQ L t by rw [hz]; simp)).2
          rw [hz] at hn hd
          have h1 := (List.pairwise_cons.1 hn).1 e e1
          have h2 := (List.pairwise_cons.1 hd).1 e e1 (by rw [hzq]; simp) (by rw [hzq, hq])
          unfold Lt
          omega
  cases S with
  | nil =>
    left
    refine ⟨rfl, ?_⟩
    rw [List.eq_nil_iff_forall_not_mem]
    intro e he
    obtain ⟨z, hz, _⟩ := hall e he
    have := hp.mem_iff.2 (List.mem_map_of_mem (f := fun e : En => e.x) hz)
    simp at this
  | cons x R =>
    right
    have hxm : x ∈ xs (heads L T) := hp.mem_iff.1 (by simp)
    obtain ⟨e0, he0, rfl⟩ := List.mem_map.1 hxm
    have hxL : e0.x ∈ xs L := List.mem_map_of_mem (f := fun e : En => e.x) (heads_sub he0)
    have hle : ∀ y ∈ xs L, y = e0.x ∨ Lt e0.x y := by
      intro y hy
      obtain ⟨e, he, rfl⟩ := List.mem_map.1 hy
      obtain ⟨z, hz, hze⟩ := hall e he
      have hzS := hp.mem_iff.2 (List.mem_map_of_mem (f := fun e : En => e.x) hz)
      have hxz : z.x = e0.x ∨ Lt e0.x z.x := by
        rcases List.mem_cons.1 hzS with e1 | e1
        · exact .inl e1
        · exact .inr ((List.pairwise_cons.1 hs).1 _ e1)
      rcases hze with rfl | hlt
      · exact hxz
      · rcases hxz with e1 | e1
        · rw [e1] at hlt; exact .inr hlt
        · exact .inr (lt_trans e1 hlt)
    refine ⟨e0.x, R, ord (del e0.x.id (xs L)), rfl, ?_⟩
    refine ord_eq h.uniq (List.pairwise_cons.2 ⟨fun y hy => ?_, ?_⟩) (((ord_perm _).cons _).trans (del_perm h.uniq hxL))
    · have h1 := del_mem.1 ((ord_perm _).mem_iff.1 hy)
      rcases hle y h1.1 with e1 | e1
      · exact absurd (by rw [e1]) h1.2
      · exact e1
    · rw [ord_del h.uniq]
      exact del_srt (ord_srt h.uniq)

theorem CInv.sub (h : CInv L T nx) (hs : M.Sublist L) : CInv M T nx :=
  ⟨h.ids.sublist (hs.map _), fun e he => h.ok e (hs.subset he), h.ns.sublist hs, fun e he => h.bnd e (hs.subset he), h.n0, fun e he => h.qin e (hs.subset he), h.qs.sublist hs, h.ts, h.t32, h.tr, Nat.le_trans hs.length_le h.len⟩
theorem CInv.cut (h : CInv L T nx) (k : Int) : CInv (cutL k L) T nx := h.sub List.filter_sublist
theorem CInv.drop (h : CInv (M ++ e :: N) T nx) : CInv (M ++ N) T nx := h.sub ((List.Sublist.refl M).append (List.sublist_cons_self _ _))
theorem newQ_some {s : Int} (h : newQ L T t k = some s) : s = t ∧ t ∈ T ∧ ∀ e ∈ L, e.q = some t → e.x.d ≤ k := by
  unfold newQ at h
  split at h
  · rename_i h1; cases h; exact ⟨rfl, h1⟩
  · cases h
theorem CInv.snoc (h : CInv L T nx) (he : e.x.Ok) (hn : e.x.n = nx) (hx : nx < 1000000) (hl : L.length < 500) (hi : hasI L e.x.id = false) (hq : ∀ t, e.q = some t → t ∈ T ∧ ∀ y ∈ L, y.q = some t → y.x.d ≤ e.x.d) : CInv (L ++ [e]) T (nx + 1) := by
  refine ⟨?_, fun y hy => ?_, ?_, fun y hy => ?_, ⟨by have := h.n0; omega, by omega⟩, fun y hy s hs => ?_, ?_, h.ts, h.t32, h.tr, by simp; omega⟩
  · rw [List.map_append, List.nodup_append]
    refine ⟨h.ids, by simp, fun a ha b hb => ?_⟩
    obtain ⟨y, hy, rfl⟩ := List.mem_map.1 ha
    simp at hb
    rw [hb]
    exact hasI_false.1 hi y hy
  · rcases List.mem_append.1 hy with hy | hy
    · exact h.ok y hy
    · simp at hy; subst hy; exact he
  · rw [List.pairwise_append]
    refine ⟨h.ns, by simp, fun a ha b hb => ?_⟩
    simp at hb; subst hb
    have := h.bnd a ha; omega
  · rcases List.mem_append.1 hy with hy | hy
    · have := h.bnd y hy; omega
    · simp at hy; subst hy; omega
  · rcases List.mem_append.1 hy with hy | hy
    · exact h.qin y hy s hs
    · simp at hy; subst hy; exact (hq s hs).1
  · rw [List.pairwise_append]
    refine ⟨h.qs, by simp, fun a ha b hb h1 h2 => ?_⟩
    simp at hb; subst hb
    cases hs : a.q with
    | none => exact absurd hs h1
    | some s => exact (hq s (by rw [← h2, hs])).2 a ha hs
theorem CInv.add (h : CInv L T nx) {x : It} (hx : x.Ok) (hn : x.n = nx) (h1 : nx < 1000000) (hl : L.length < 500) (t : Int) : CInv (addL L T x t) T (nx + 1) := by
  refine (h.cut x.id).snoc hx hn h1 (Nat.lt_of_le_of_lt (List.length_filter_le _ _) hl) cutL_has fun s hs => ?_
  obtain ⟨rfl, h2, h3⟩ := newQ_some hs
  exact ⟨h2, h3⟩
theorem CInv.common (h : CInv L T nx) (ht : t ∉ T) (h1 : T.length < 32) (h2 : 0 ≤ t ∧ t < 18446744073709551615) : CInv L (T ++ [t]) nx :=
  ⟨h.ids, h.ok, h.ns, h.bnd, h.n0, fun e he s hs => List.mem_append_left _ (h.qin e he s hs), h.qs, by
    rw [List.nodup_append]
    exact ⟨h.ts, by simp, fun a ha b hb => by simp at hb; rintro rfl; exact ht (hb ▸ ha)⟩, by simp; omega, fun s hs => by
    rcases List.mem_append.1 hs with hs | hs
    · exact h.tr s hs
    · simp at hs; subst hs; exact h2, h.len⟩
theorem inv_nil : CInv [] [] 0 := ⟨by simp, by simp, by simp, by simp, by simp, by simp, by simp, by simp, by simp, by simp, by simp⟩
end
end Go.Proofs.Ytncdohbdmpfefaa
