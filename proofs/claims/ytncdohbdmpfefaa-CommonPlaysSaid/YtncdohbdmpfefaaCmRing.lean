/-
  Rings of nodes: what stands behind a node, and before it; a node that leaves, or joins at the end. Plain mathematics.
-/
import Init
namespace Go.Proofs.Ytncdohbdmpfefaa

/-- A node: the end of a queue, or a place (by a number). -/
inductive Nd where
  | e (i : Nat)
  | p (b : Nat)
deriving DecidableEq

def updN {α : Type} (f : Nd → α) (a : Nd) (b : α) : Nd → α := fun x => if x = a then b else f x
theorem updN_same {α : Type} (f : Nd → α) (a : Nd) (b : α) : updN f a b a = b := if_pos rfl
theorem updN_ne {α : Type} (f : Nd → α) {a x : Nd} (b : α) (h : x ≠ a) : updN f a b x = f x := if_neg h

/-- From u, along the nodes l, to v: F is what stands behind, G what stands before. -/
def Seg (F G : Nd → Nd) : Nd → List Nd → Nd → Prop
  | u, [], v => F u = v ∧ G v = u
  | u, x :: l, v => (F u = x ∧ G x = u) ∧ Seg F G x l v

section
variable {F G F' G' : Nd → Nd} {u v p z : Nd} {l m : List Nd}

theorem Seg.congr : ∀ {l : List Nd} {u : Nd}, Seg F G u l v → (∀ x ∈ u :: l, F' x = F x) → (∀ x ∈ l ++ [v], G' x = G x) → Seg F' G' u l v
  | [], u, h, hf, hg => ⟨(hf u (by simp)).trans h.1, (hg v (by simp)).trans h.2⟩
  | x :: l, u, h, hf, hg => ⟨⟨(hf u (by simp)).trans h.1.1, (hg x (by simp)).trans h.1.2⟩, Seg.congr h.2 (fun y hy => hf y (List.mem_cons_of_mem _ hy)) (fun y hy => hg y (List.mem_cons_of_mem _ hy))⟩

theorem Seg.append : ∀ {l : List Nd} {u : Nd}, Seg F G u (l ++ p :: m) v ↔ Seg F G u l p ∧ Seg F G p m v
  | [], u => by simp [Seg]
  | x :: l, u => by
    show (F u = x ∧ G x = u) ∧ Seg F G x (l ++ p :: m) v ↔ ((F u = x ∧ G x = u) ∧ Seg F G x l p) ∧ Seg F G p m v
    rw [Seg.append (l := l)]
    exact ⟨fun ⟨a, b, c⟩ => ⟨⟨a, b⟩, c⟩, fun ⟨⟨a, b⟩, c⟩ => ⟨a, b, c⟩⟩

/-- What stands before the last one. -/
theorem Seg.last : ∀ {l : List Nd} {u : Nd}, Seg F G u l v → G v ∈ u :: l
  | [], u, h => by rw [h.2]; simp
  | x :: l, u, h => List.mem_cons_of_mem _ (Seg.last h.2)
/-- What stands behind the first one. -/
theorem Seg.first (h : Seg F G u l v) : F u ∈ l ++ [v] := by
  cases l with
  | nil => rw [h.1]; simp
  | cons x l => rw [h.1.1]; simp

/-- A node leaves. -/
theorem Seg.leave : ∀ {l : List Nd} {u : Nd}, Seg F G u (l ++ p :: m) v → (u :: (l ++ p :: m)).Nodup → v ∉ l ++ p :: m → Seg (updN F (G p) (F p)) (updN G (F p) (G p)) u (l ++ m) v
  | [], u, h, hn, hv => by
    obtain ⟨⟨h1, h2⟩, h3⟩ := h
    simp only [List.nil_append] at hn hv ⊢
    have hu : u ∉ p :: m := (List.nodup_cons.1 hn).1
    have hm : (p :: m).Nodup := (List.nodup_cons.1 hn).2
    cases m with
    | nil =>
      obtain ⟨h4, h5⟩ := h3
      rw [h2, h4]
      exact ⟨updN_same _ _ _, updN_same _ _ _⟩
    | cons y m =>
      obtain ⟨⟨h4, h5⟩, h6⟩ := h3
      rw [h2, h4]
      refine ⟨⟨updN_same _ _ _, updN_same _ _ _⟩, h6.congr (fun x hx => updN_ne _ _ ?_) (fun x hx => updN_ne _ _ ?_)⟩
      · rintro rfl; exact hu (List.mem_cons_of_mem _ hx)
      · rintro rfl
        have := (List.nodup_cons.1 (List.nodup_cons.1 hm).2).1
        rcases List.mem_append.1 hx with hx | hx
        · exact this hx
        · simp at hx; subst hx; simp at hv
  | x :: l, u, h, hn, hv => by
    obtain ⟨⟨h1, h2⟩, h3⟩ := h
    have hn2 := (List.nodup_cons.1 hn).2
    have hu := (List.nodup_cons.1 hn).1
    have h4 := Seg.leave h3 hn2 (fun e => hv (List.mem_cons_of_mem _ e))
    refine ⟨⟨(updN_ne _ _ ?_).trans h1, (updN_ne _ _ ?_).trans h2⟩, h4⟩
    · rintro rfl
      have hl := (Seg.append.1 h3).1.last
      refine hu ?_
      have : G p ∈ x :: (l ++ p :: m) := by
        rcases List.mem_cons.1 hl with e | e
        · rw [e]; simp
        · exact List.mem_cons_of_mem _ (List.mem_append_left _ e)
      exact this
    · rintro e
      have hf := (Seg.append.1 h3).2.first
      rw [← e] at hf
      rcases List.mem_append.1 hf with e | e
      · exact (List.nodup_cons.1 hn2).1 (List.mem_append_right _ (List.mem_cons_of_mem _ e))
      · simp at e; subst e; simp at hv

/-- A node joins at the end. -/
theorem Seg.join : ∀ {l : List Nd} {u : Nd}, Seg F G u l v → (u :: l).Nodup → v ∉ l → p ∉ u :: l → p ≠ v → Seg (updN (updN F p v) (G v) p) (updN (updN G p (G v)) v p) u (l ++ [p]) v
  | [], u, h, hn, hv, hp, hpv => by
    obtain ⟨h1, h2⟩ := h
    rw [h2]
    have hpu : p ≠ u := fun e => hp (by simp [e])
    refine ⟨⟨updN_same _ _ _, ?_⟩, ?_, updN_same _ _ _⟩
    · rw [updN_ne _ _ hpv, updN_same]
    · rw [updN_ne _ _ hpu, updN_same]
  | x :: l, u, h, hn, hv, hp, hpv => by
    obtain ⟨⟨h1, h2⟩, h3⟩ := h
    have hu := (List.nodup_cons.1 hn).1
    have h4 := Seg.join h3 (List.nodup_cons.1 hn).2 (fun e => hv (List.mem_cons_of_mem _ e)) (fun e => hp (List.mem_cons_of_mem _ e)) hpv
    refine ⟨⟨?_, ?_⟩, h4⟩
    · rw [updN_ne _ _ (fun e => hu (by rw [e]; exact h3.last)), updN_ne _ _ (fun e => hp (by simp [e]))]; exact h1
    · rw [updN_ne _ _ (fun e => hv (by simp [e])), updN_ne _ _ (fun e => hp (by simp [e]))]; exact h2
end
end Go.Proofs.Ytncdohbdmpfefaa
