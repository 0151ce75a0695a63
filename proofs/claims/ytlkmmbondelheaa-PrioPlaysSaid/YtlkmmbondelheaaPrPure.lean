/-
  Rings of nodes: what stands behind a node, and before it; a node that leaves, or joins at the end. Plain mathematics.
-/
namespace Go.Proofs.Ytlkmmbondelheaa

/-- A node: the end of a queue, or a place (by its block). -/
inductive Nd where
  | e (i : Nat)
  | p (b : Nat)
deriving DecidableEq

def updN {α : Type} (f : Nd → α) (a : Nd) (b : α) : Nd → α := fun x => if x = a then b else f x
theorem updN_same {α : Type} (f : Nd → α) (a : Nd) (b : α) : updN f a b a = b := if_pos rfl
theorem updN_ne {α : Type} (f : Nd → α) {a x : Nd} (b : α) (h : x ≠ a) : updN f a b x = f x := if_neg h

/-- From u, along the nodes l, to v: F is what stands behind, G what stands before. -/
def Seg (F G : Nd → Nd) : Nd → List Nd → Nd → Prop
  | u, [], v => F u = v ∧ G v = u
  | u, x :: l, v => (F u = x ∧ G x = u) ∧ Seg F G x l v

section
variable {F G F' G' : Nd → Nd} {u v p z : Nd} {l m : List Nd}

theorem Seg.congr : ∀ {l : List Nd} {u : Nd}, Seg F G u l v → (∀ x ∈ u :: l, F' x = F x) → (∀ x ∈ l ++ [v], G' x = G x) → Seg F' G' u l v
  | [], u, h, hf, hg => ⟨(hf u (by simp)).trans h.1, (hg v (by simp)).trans h.2⟩
  | x :: l, u, h, hf, hg => ⟨⟨(hf u (by simp)).trans h.1.1, (hg x (by simp)).trans h.1.2⟩, Seg.congr h.2 (fun y hy => hf y (List.mem_cons_of_mem _ hy)) (fun y hy => hg y (List.mem_cons_of_mem _ hy))⟩

theorem Seg.append : ∀ {l : List Nd} {u : Nd}, Seg F G u (l ++ p :: m) v ↔ Seg F G u l p ∧ Seg F G p m v
  | [], u => by simp [Seg]
  | x :: l, u => by
    show (F u = x ∧ G x = u) ∧ Seg F G x (l ++ p :: m) v ↔ ((F u = x ∧ G x = u) ∧ Seg F G x l p) ∧ Seg F G p m v
    rw [Seg.append (l := l)]
    exact ⟨fun ⟨a, b, c⟩ => ⟨⟨a, b⟩, c⟩, fun ⟨⟨a, b⟩, c⟩ => ⟨a, b, c⟩⟩

/-- What stands before the last one. -/
theorem Seg.last : ∀ {l : List Nd} {u : Nd}, Seg F G u l v → G v ∈ u :: l
  | [], u, h => by rw [h.2]; simp
  | x :: l, u, h => List.mem_cons_of_mem _ (Seg.last h.2)
/-- What stands behind the first one. -/
theorem Seg.first (h : Seg F G u l v) : F u ∈ l ++ [v] := by
  cases l with
  | nil => rw [h.1]; simp
  | cons x l => rw [h.1.1]; simp

/-- A node leaves. -/
theorem Seg.leave : ∀ {l : List Nd} {u : Nd}, Seg F G u (l ++ p :: m) v → (u :: (l ++ p :: m)).Nodup → v ∉ l ++ p :: m → Seg (updN F (G p) (F p)) (updN G (F p) (G p)) u (l ++ m) v
  | [], u, h, hn, hv => by
    obtain ⟨⟨h1, h2⟩, h3⟩ := h
    simp only [List.nil_append] at hn hv ⊢
    have hu : u ∉ p :: m := (List.nodup_cons.1 hn).1
    have hm : (p :: m).Nodup := (List.nodup_cons.1 hn).2
    cases m with
    | nil =>
      obtain ⟨h4, h5⟩ := h3
      rw [h2, h4]
      exact ⟨updN_same _ _ _, updN_same _ _ _⟩
    | cons y m =>
      obtain ⟨⟨h4, h5⟩, h6⟩ := h3
      rw [h2, h4]
      refine ⟨⟨updN_same _ _ _, updN_same _ _ _⟩, h6.congr (fun x hx => updN_ne _ _ ?_) (fun x hx => updN_ne _ _ ?_)⟩
      · rintro rfl; exact hu (List.mem_cons_of_mem _ hx)
      · rintro rfl
        have := (List.nodup_cons.1 (List.nodup_cons.1 hm).2).1
        rcases List.mem_append.1 hx with hx | hx
        · exact this hx
        · simp at hx; subst hx; simp at hv
  | x :: l, u, h, hn, hv => by
    obtain ⟨⟨h1, h2⟩, h3⟩ := h
    have hn2 := (List.nodup_cons.1 hn).2
    have hu := (List.nodup_cons.1 hn).1
    have h4 := Seg.leave h3 hn2 (fun e => hv (List.mem_cons_of_mem _ e))
    refine ⟨⟨(updN_ne _ _ ?_).trans h1, (updN_ne _ _ ?_).trans h2⟩, h4⟩
    · rintro rfl
      have hl := (Seg.append.1 h3).1.last
      refine hu ?_
      have : G p ∈ x :: (l ++ p :: m) := by
        rcases List.mem_cons.1 hl with e | e
        · rw [e]; simp
        · exact List.mem_cons_of_mem _ (List.mem_append_left _ e)
      exact this
    · rintro e
      have hf := (Seg.append.1 h3).2.first
      rw [← e] at hf
      rcases List.mem_append.1 hf with e | e
      · exact (List.nodup_cons.1 hn2).1 (List.mem_append_right _ (List.mem_cons_of_mem _ e))
      · simp at e; subst e; simp at hv

/-- A node joins at the end. -/
theorem Seg.join : ∀ {l : List Nd} {u : Nd}, Seg F G u l v → (u :: l).Nodup → v ∉ l → p ∉ u :: l → p ≠ v → Seg (updN (updN F p v) (G v) p) (updN (updN G p (G v)) v p) u (l ++ [p]) v
  | [], u, h, hn, hv, hp, hpv => by
    obtain ⟨h1, h2⟩ := h
    rw [h2]
    have hpu : p ≠ u := fun e => hp (by simp [e])
    refine ⟨⟨updN_same _ _ _, ?_⟩, ?_, updN_same _ _ _⟩
    · rw [updN_ne _ _ hpv, updN_same]
    · rw [updN_ne _ _ hpu, updN_same]
  | x :: l, u, h, hn, hv, hp, hpv => by
    obtain ⟨⟨h1, h2⟩, h3⟩ := h
    have hu := (List.nodup_cons.1 hn).1
    have h4 := Seg.join h3 (List.nodup_cons.1 hn).2 (fun e => hv (List.mem_cons_of_mem _ e)) (fun e => hp (List.mem_cons_of_mem _ e)) hpv
    refine ⟨⟨?_, ?_⟩, h4⟩
    · rw [updN_ne _ _ (fun e => hu (by rw [e]; exact h3.last)), updN_ne _ _ (fun e => hp (by simp [e]))]; exact h1
    · rw [updN_ne _ _ (fun e => hv (by simp [e])), updN_ne _ _ (fun e => hp (by simp [e]))]; exact h2
end

/-- An item, its priority, and the block where it stands. -/
structure It where
  id : Int
  fl : Int
  ct : Int
  pr : Nat
  bk : Nat
deriving DecidableEq

/-- The items of a priority, in order. -/
def ofP (L : List It) (i : Nat) : List It := L.filter (·.pr = i)
/-- Their nodes. -/
def nods (L : List It) (i : Nat) : List Nd := (ofP L i).map fun x => .p x.bk

/-- The rings of so many queues. -/
structure Rings (F G : Nd → Nd) (many : Nat) (L : List It) : Prop where
  seg : ∀ i, i < many → Seg F G (.e i) (nods L i) (.e i)
  nod : (L.map (·.bk)).Nodup

section
variable {F G : Nd → Nd} {many i j : Nat} {L M N : List It} {x : It}
theorem mem_nods : ∀ {n : Nd}, n ∈ nods L i ↔ ∃ x ∈ L, x.pr = i ∧ n = .p x.bk := by
  intro n
  simp only [nods, ofP, List.mem_map, List.mem_filter, decide_eq_true_eq]
  exact ⟨fun ⟨x, ⟨a, b⟩, c⟩ => ⟨x, a, b, c.symm⟩, fun ⟨x, a, b, c⟩ => ⟨x, ⟨a, b⟩, c.symm⟩⟩
theorem nods_append : nods (M ++ N) i = nods M i ++ nods N i := by simp [nods, ofP]
theorem nods_cons_same (h : x.pr = i) : nods (x :: N) i = .p x.bk :: nods N i := by simp [nods, ofP, h]
theorem nods_cons_ne (h : x.pr ≠ i) : nods (x :: N) i = nods N i := by simp [nods, ofP, h]
theorem bk_inj : ∀ {L : List It}, (L.map (·.bk)).Nodup → ∀ {x y : It}, x ∈ L → y ∈ L → x.bk = y.bk → x = y
  | [], _, _, _, hx, _, _ => by simp at hx
  | z :: L, hn, x, y, hx, hy, h => by
    have h1 := List.nodup_cons.1 (by simpa using hn : (z.bk :: L.map (·.bk)).Nodup)
    rcases List.mem_cons.1 hx with e1 | h2
    · rcases List.mem_cons.1 hy with e2 | h3
      · rw [e1, e2]
      · exact absurd (List.mem_map.2 ⟨y, h3, by rw [← h, e1]⟩) h1.1
    · rcases List.mem_cons.1 hy with e2 | h3
      · exact absurd (List.mem_map.2 ⟨x, h2, by rw [h, e2]⟩) h1.1
      · exact bk_inj h1.2 h2 h3 h
theorem nods_nodup (hn : (L.map (·.bk)).Nodup) : (nods L i).Nodup := by
  unfold nods ofP
  induction L with
  | nil => simp
  | cons y L ih =>
    have h1 := List.nodup_cons.1 (by simpa using hn : (y.bk :: L.map (·.bk)).Nodup)
    rw [List.filter_cons]
    split
    · rw [List.map_cons, List.nodup_cons]
      refine ⟨fun h => ?_, ih h1.2⟩
      obtain ⟨z, hz, e⟩ := List.mem_map.1 h
      injection e with e
      exact h1.1 (List.mem_map.2 ⟨z, (List.mem_filter.1 hz).1, e⟩)
    · exact ih h1.2
theorem e_not_nods : ∀ {n : Nat}, Nd.e n ∉ nods L i := fun h => by obtain ⟨_, _, _, e⟩ := mem_nods.1 h; cases e
theorem ring_nodup (hn : (L.map (·.bk)).Nodup) : (Nd.e i :: nods L i).Nodup := List.nodup_cons.2 ⟨e_not_nods, nods_nodup hn⟩

/-- What stands beside a node is an end, or a place that is in the rings. -/
def InR (many : Nat) (L : List It) : Nd → Prop
  | .e i => i < many
  | .p b => ∃ x ∈ L, x.bk = b

theorem Rings.ring (h : Rings F G many (M ++ x :: N)) (hx : x.pr < many) : Seg F G (.e x.pr) (nods M x.pr ++ .p x.bk :: nods N x.pr) (.e x.pr) := by
  have := h.seg x.pr hx
  rw [nods_append, nods_cons_same rfl] at this
  exact this
theorem seg_inR {l : List Nd} {n : Nd} (hi : i < many) (hl : ∀ n ∈ l, ∃ x ∈ L, n = .p x.bk) (h : n ∈ (Nd.e i) :: l ∨ n ∈ l ++ [.e i]) : InR many L n := by
  have : n = .e i ∨ n ∈ l := by rcases h with h | h <;> simp at h <;> first | exact h | exact h.symm
  rcases this with rfl | h
  · exact hi
  · obtain ⟨x, hx, rfl⟩ := hl n h
    exact ⟨x, hx, rfl⟩
theorem Rings.beside (h : Rings F G many L) (hx : x ∈ L) (hp : x.pr < many) : InR many L (F (.p x.bk)) ∧ InR many L (G (.p x.bk)) ∧ F (.p x.bk) ≠ .p x.bk ∧ G (.p x.bk) ≠ .p x.bk := by
  obtain ⟨M, N, rfl⟩ := List.append_of_mem hx
  have hs := h.ring hp
  have hn := ring_nodup (i := x.pr) h.nod
  rw [nods_append, nods_cons_same rfl] at hn
  obtain ⟨h1, h2⟩ := Seg.append.1 hs
  have l1 := h1.last
  have l2 := h2.first
  refine ⟨seg_inR hp (fun n hn => ?_) (.inr l2), seg_inR hp (fun n hn => ?_) (.inl l1), fun e => ?_, fun e => ?_⟩
  · obtain ⟨y, hy, _, e⟩ := mem_nods.1 hn; exact ⟨y, by simp [hy], e⟩
  · obtain ⟨y, hy, _, e⟩ := mem_nods.1 hn; exact ⟨y, by simp [hy], e⟩
  · rw [e] at l2
    rcases List.mem_append.1 l2 with l2 | l2
    · have := (List.nodup_cons.1 hn).2
      rw [List.nodup_append] at this
      exact (List.nodup_cons.1 this.2.1).1 l2
    · simp at l2
  · rw [e] at l1
    rcases List.mem_cons.1 l1 with l1 | l1
    · cases l1
    · have := (List.nodup_cons.1 hn).2
      rw [List.nodup_append] at this
      exact this.2.2 _ l1 _ (by simp) rfl
theorem Rings.ends (h : Rings F G many L) (hi : i < many) : InR many L (F (.e i)) ∧ InR many L (G (.e i)) := by
  have hs := h.seg i hi
  exact ⟨seg_inR hi (fun n hn => by obtain ⟨y, hy, _, e⟩ := mem_nods.1 hn; exact ⟨y, hy, e⟩) (.inr hs.first), seg_inR hi (fun n hn => by obtain ⟨y, hy, _, e⟩ := mem_nods.1 hn; exact ⟨y, hy, e⟩) (.inl hs.last)⟩

theorem nodup_drop (h : ((M ++ x :: N).map (·.bk)).Nodup) : ((M ++ N).map (·.bk)).Nodup ∧ ∀ y ∈ M ++ N, y.bk ≠ x.bk := by
  simp only [List.map_append, List.map_cons] at h ⊢
  have h2 : (x.bk :: (M.map (·.bk) ++ N.map (·.bk))).Nodup := (List.perm_middle.nodup_iff).1 h
  refine ⟨(List.nodup_cons.1 h2).2, fun y hy e => (List.nodup_cons.1 h2).1 ?_⟩
  rw [← e, ← List.map_append]
  exact List.mem_map.2 ⟨y, hy, rfl⟩

/-- An item leaves its ring. -/
theorem Rings.leave (h : Rings F G many (M ++ x :: N)) (hp : x.pr < many) : Rings (updN F (G (.p x.bk)) (F (.p x.bk))) (updN G (F (.p x.bk)) (G (.p x.bk))) many (M ++ N) := by
  obtain ⟨hn, hne⟩ := nodup_drop h.nod
  refine ⟨fun i hi => ?_, hn⟩
  have hs := h.ring hp
  have hnd := ring_nodup (i := x.pr) h.nod
  rw [nods_append, nods_cons_same rfl] at hnd
  by_cases e : x.pr = i
  · subst e
    rw [nods_append]
    refine hs.leave hnd (fun hm => ?_)
    rcases List.mem_append.1 hm with hm | hm
    · exact e_not_nods hm
    · rcases List.mem_cons.1 hm with hm | hm
      · cases hm
      · exact e_not_nods hm
  · have h2 := h.seg i hi
    rw [nods_append, nods_cons_ne e] at h2
    rw [nods_append]
    obtain ⟨h3, h4⟩ := Seg.append.1 hs
    have l1 := h3.last
    have l2 := h4.first
    have far : ∀ n, n ∈ Nd.e i :: (nods M i ++ nods N i) → n ∉ Nd.e x.pr :: (nods M x.pr ++ nods N x.pr) := by
      intro n hn1 hn2
      rcases List.mem_cons.1 hn1 with rfl | hn1
      · rcases List.mem_cons.1 hn2 with hn2 | hn2
        · injection hn2 with hn2; exact e hn2.symm
        · rw [← nods_append] at hn2; exact e_not_nods hn2
      · rw [← nods_append] at hn1
        obtain ⟨y, hy, hyp, rfl⟩ := mem_nods.1 hn1
        rcases List.mem_cons.1 hn2 with hn2 | hn2
        · cases hn2
        · rw [← nods_append] at hn2
          obtain ⟨z, hz, hzp, e2⟩ := mem_nods.1 hn2
          injection e2 with e2
          have := bk_inj hn hy hz e2
          subst this
          exact e (hzp.symm.trans hyp)
    refine h2.congr (fun n hn1 => updN_ne _ _ fun e1 => far n hn1 ?_) (fun n hn1 => updN_ne _ _ fun e1 => far n ?_ ?_)
    · rw [e1]
      rcases List.mem_cons.1 l1 with l1 | l1
      · rw [l1]; simp
      · exact List.mem_cons_of_mem _ (List.mem_append_left _ l1)
    · rcases List.mem_append.1 hn1 with hn1 | hn1
      · exact List.mem_cons_of_mem _ hn1
      · simp at hn1; subst hn1; simp
    · rw [e1]
      rcases List.mem_append.1 l2 with l2 | l2
      · exact List.mem_cons_of_mem _ (List.mem_append_right _ l2)
      · simp at l2; rw [l2]; simp

/-- An item joins at the end of a ring. -/
theorem Rings.join (h : Rings F G many L) (hp : x.pr < many) (hb : ∀ y ∈ L, y.bk ≠ x.bk) :
    Rings (updN (updN F (.p x.bk) (.e x.pr)) (G (.e x.pr)) (.p x.bk)) (updN (updN G (.p x.bk) (G (.e x.pr))) (.e x.pr) (.p x.bk)) many (L ++ [x]) := by
  refine ⟨fun i hi => ?_, ?_⟩
  · have hx : ∀ i, Nd.p x.bk ∉ nods L i := fun i hm => by
      obtain ⟨y, hy, _, e⟩ := mem_nods.1 hm
      injection e with e
      exact hb y hy e.symm
    have hl := (h.seg _ hp).last
    rw [nods_append]
    by_cases e : x.pr = i
    · subst e
      rw [nods_cons_same rfl]
      refine (h.seg _ hp).join (ring_nodup h.nod) e_not_nods (fun hm => ?_) (by simp)
      rcases List.mem_cons.1 hm with hm | hm
      · cases hm
      · exact hx _ hm
    · rw [nods_cons_ne e]
      show Seg _ _ _ (nods L i ++ []) _
      rw [List.append_nil]
      refine (h.seg i hi).congr (fun n hn => ?_) (fun n hn => ?_)
      · have h1 : n ≠ G (.e x.pr) := by
          rintro rfl
          rcases List.mem_cons.1 hn with hn | hn
          · rw [hn] at hl
            rcases List.mem_cons.1 hl with hl | hl
            · injection hl with hl; exact e hl.symm
            · exact e_not_nods hl
          · obtain ⟨y, hy, hyp, e2⟩ := mem_nods.1 hn
            rw [e2] at hl
            rcases List.mem_cons.1 hl with hl | hl
            · cases hl
            · obtain ⟨z, hz, hzp, e3⟩ := mem_nods.1 hl
              injection e3 with e3
              have := bk_inj h.nod hy hz e3
              subst this
              exact e (hzp.symm.trans hyp)
        have h2 : n ≠ .p x.bk := by
          rintro rfl
          rcases List.mem_cons.1 hn with hn | hn
          · cases hn
          · exact hx _ hn
        rw [updN_ne _ _ h1, updN_ne _ _ h2]
      · have h1 : n ≠ .e x.pr := by
          rintro rfl
          rcases List.mem_append.1 hn with hn | hn
          · exact e_not_nods hn
          · simp at hn; exact e hn
        have h2 : n ≠ .p x.bk := by
          rintro rfl
          rcases List.mem_append.1 hn with hn | hn
          · exact hx _ hn
          · simp at hn
        rw [updN_ne _ _ h1, updN_ne _ _ h2]
  · rw [List.map_append, List.nodup_append]
    refine ⟨h.nod, by simp, fun a ha b hb2 => ?_⟩
    obtain ⟨y, hy, rfl⟩ := List.mem_map.1 ha
    simp at hb2
    rw [hb2]
    exact hb y hy

/-- Another item's flags and count in the same place: the rings are the same. -/
theorem Rings.same {L' : List It} (h : Rings F G many L) (he : L'.map (fun x => (x.pr, x.bk)) = L.map (fun x => (x.pr, x.bk))) : Rings F G many L' := by
  have hb : ∀ l : List It, l.map (·.bk) = (l.map (fun x => (x.pr, x.bk))).map (·.2) := fun l => by simp
  have hN : ∀ l : List It, ∀ i, nods l i = ((l.map (fun x => (x.pr, x.bk))).filter (·.1 = i)).map (fun y => Nd.p y.2) := by
    intro l i
    unfold nods ofP
    induction l with
    | nil => rfl
    | cons y l ih => rw [List.map_cons, List.filter_cons, List.filter_cons]; split <;> simp_all
  refine ⟨fun i hi => ?_, ?_⟩
  · rw [hN, he, ← hN]; exact h.seg i hi
  · rw [hb, he, ← hb]; exact h.nod
end
end Go.Proofs.Ytlkmmbondelheaa
