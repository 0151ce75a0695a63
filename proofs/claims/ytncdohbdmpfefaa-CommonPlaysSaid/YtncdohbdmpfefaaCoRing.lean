/-
  The rings of a set's queues: an item leaves its queue's ring, or joins it at the end. Plain mathematics.
-/
import Derived.Test.YtncdohbdmpfefaaCoPure
namespace Go.Proofs.Ytncdohbdmpfefaa

/-- The nodes of a queue, in order. -/
def nods (bo : Int → Nat) (L : List En) (t : Int) : List Nd := (ofQ L t).map fun e => .p (bo e.x.id)
/-- No two items, and no two queues, have one block. -/
structure Apt (bo : Int → Nat) (qb : Int → Nat) (L : List En) (T : List Int) : Prop where
  b : ∀ a ∈ L, ∀ c ∈ L, bo a.x.id = bo c.x.id → a.x.id = c.x.id
  q : ∀ s ∈ T, ∀ t ∈ T, qb s = qb t → s = t
  ids : (L.map fun e => e.x.id).Nodup
def Rings (F G : Nd → Nd) (bo qb : Int → Nat) (L : List En) (T : List Int) : Prop := ∀ t ∈ T, Seg F G (.e (qb t)) (nods bo L t) (.e (qb t))

section
variable {F G : Nd → Nd} {bo qb : Int → Nat} {L M N : List En} {T : List Int} {e : En} {t s : Int} {n : Nd}
theorem mem_nods : n ∈ nods bo L t ↔ ∃ a ∈ L, a.q = some t ∧ n = .p (bo a.x.id) := by
  unfold nods
  rw [List.mem_map]
  exact ⟨fun ⟨a, h, e⟩ => ⟨a, (ofQ_mem.1 h).1, (ofQ_mem.1 h).2, e.symm⟩, fun ⟨a, h1, h2, e⟩ => ⟨a, ofQ_mem.2 ⟨h1, h2⟩, e.symm⟩⟩
theorem nods_append : nods bo (M ++ N) t = nods bo M t ++ nods bo N t := by unfold nods; rw [ofQ_append, List.map_append]
theorem nods_cons_same (h : e.q = some t) : nods bo (e :: N) t = .p (bo e.x.id) :: nods bo N t := by unfold nods; rw [ofQ_cons_same h, List.map_cons]
theorem nods_cons_ne (h : e.q ≠ some t) : nods bo (e :: N) t = nods bo N t := by unfold nods; rw [ofQ_cons_ne h]
theorem e_not_nods {b : Nat} : Nd.e b ∉ nods bo L t := fun h => by obtain ⟨_, _, _, e⟩ := mem_nods.1 h; cases e
theorem nods_nodup : ∀ {L : List En}, (∀ a ∈ L, ∀ c ∈ L, bo a.x.id = bo c.x.id → a.x.id = c.x.id) → (L.map fun e => e.x.id).Nodup → (nods bo L t).Nodup
  | [], _, _ => by simp [nods, ofQ]
  | a :: L, hb, hn => by
    rw [List.map_cons, List.nodup_cons] at hn
    have ih := nods_nodup (fun x hx y hy => hb x (List.mem_cons_of_mem _ hx) y (List.mem_cons_of_mem _ hy)) hn.2
    by_cases h : a.q = some t
    · rw [nods_cons_same h, List.nodup_cons]
      refine ⟨fun hm => ?_, ih⟩
      obtain ⟨c, hc, _, e2⟩ := mem_nods.1 hm
      injection e2 with e2
      have := hb a (by simp) c (List.mem_cons_of_mem _ hc) e2
      exact hn.1 (by rw [this]; exact List.mem_map_of_mem (f := fun e : En => e.x.id) hc)
    · rw [nods_cons_ne h]; exact ih
theorem Apt.ring_nodup (h : Apt bo qb L T) : (Nd.e (qb t) :: nods bo L t).Nodup := List.nodup_cons.2 ⟨e_not_nods, nods_nodup h.b h.ids⟩
/-- Two rings have no node in common. -/
theorem Apt.disj (h : Apt bo qb L T) (hs : s ∈ T) (ht : t ∈ T) (hne : s ≠ t) (h1 : n ∈ Nd.e (qb s) :: nods bo L s) : n ∉ Nd.e (qb t) :: nods bo L t := by
  intro h2
  rcases List.mem_cons.1 h1 with rfl | h1
  · rcases List.mem_cons.1 h2 with h2 | h2
    · injection h2 with h2; exact hne (h.q s hs t ht h2)
    · exact e_not_nods h2
  · obtain ⟨a, ha, haq, rfl⟩ := mem_nods.1 h1
    rcases List.mem_cons.1 h2 with h2 | h2
    · cases h2
    · obtain ⟨c, hc, hcq, e2⟩ := mem_nods.1 h2
      injection e2 with e2
      have := en_inj h.ids ha hc (h.b a ha c hc e2)
      subst this
      rw [haq] at hcq
      cases hcq
      exact hne rfl
theorem ring_comm {u : Nd} {l : List Nd} (h : n ∈ l ++ [u]) : n ∈ u :: l := by
  rcases List.mem_append.1 h with h | h
  · exact List.mem_cons_of_mem _ h
  · simp at h; subst h; simp

theorem Apt.drop (h : Apt bo qb (M ++ e :: N) T) : Apt bo qb (M ++ N) T := by
  have hs : ∀ a ∈ M ++ N, a ∈ M ++ e :: N := fun a ha => by
    rcases List.mem_append.1 ha with ha | ha <;> simp [ha]
  exact ⟨fun a ha c hc => h.b a (hs a ha) c (hs c hc), h.q, (ids_split h.ids).2.2⟩

/-- What stands beside an item in a queue. -/
theorem Rings.beside (h : Rings F G bo qb (M ++ e :: N) T) (hA : Apt bo qb (M ++ e :: N) T) (hq : e.q = some t) (ht : t ∈ T) :
    F (.p (bo e.x.id)) ∈ Nd.e (qb t) :: nods bo (M ++ N) t ∧ G (.p (bo e.x.id)) ∈ Nd.e (qb t) :: nods bo (M ++ N) t ∧ F (.p (bo e.x.id)) ≠ .p (bo e.x.id) ∧ G (.p (bo e.x.id)) ≠ .p (bo e.x.id) := by
  have hs := h t ht
  have hn := hA.ring_nodup (t := t)
  rw [nods_append, nods_cons_same hq] at hs hn
  obtain ⟨h1, h2⟩ := Seg.append.1 hs
  have l1 := h1.last
  have l2 := h2.first
  rw [nods_append]
  have f1 : F (.p (bo e.x.id)) ∈ Nd.e (qb t) :: (nods bo M t ++ nods bo N t) := by
    rcases List.mem_append.1 l2 with l2 | l2
    · exact List.mem_cons_of_mem _ (List.mem_append_right _ l2)
    · simp at l2; rw [l2]; simp
  have g1 : G (.p (bo e.x.id)) ∈ Nd.e (qb t) :: (nods bo M t ++ nods bo N t) := by
    rcases List.mem_cons.1 l1 with l1 | l1
    · rw [l1]; simp
    · exact List.mem_cons_of_mem _ (List.mem_append_left _ l1)
  have hp : Nd.p (bo e.x.id) ∉ Nd.e (qb t) :: (nods bo M t ++ nods bo N t) := by
    intro hm
    have h3 : (Nd.p (bo e.x.id) :: (Nd.e (qb t) :: (nods bo M t ++ nods bo N t))).Nodup := by
      have : (Nd.e (qb t) :: (nods bo M t ++ Nd.p (bo e.x.id) :: nods bo N t)).Perm (Nd.p (bo e.x.id) :: (Nd.e (qb t) :: (nods bo M t ++ nods bo N t))) :=
        (List.perm_middle.cons _).trans (List.Perm.swap _ _ _)
      exact this.nodup_iff.1 hn
    exact (List.nodup_cons.1 h3).1 hm
  exact ⟨f1, g1, fun e1 => hp (by rw [← e1]; exact f1), fun e1 => hp (by rw [← e1]; exact g1)⟩

/-- An item leaves its ring. -/
theorem Rings.leave (h : Rings F G bo qb (M ++ e :: N) T) (hA : Apt bo qb (M ++ e :: N) T) (hq : e.q = some t) (ht : t ∈ T) :
    Rings (updN F (G (.p (bo e.x.id))) (F (.p (bo e.x.id)))) (updN G (F (.p (bo e.x.id))) (G (.p (bo e.x.id)))) bo qb (M ++ N) T := by
  obtain ⟨hf, hg, _, _⟩ := h.beside hA hq ht
  intro s hs
  by_cases e1 : s = t
  · subst e1
    have h1 := h s hs
    have hn := hA.ring_nodup (t := s)
    rw [nods_append, nods_cons_same hq] at h1 hn
    rw [nods_append]
    refine h1.leave hn fun hm => ?_
    rcases List.mem_append.1 hm with hm | hm
    · exact e_not_nods hm
    · rcases List.mem_cons.1 hm with hm | hm
      · cases hm
      · exact e_not_nods hm
  · have h1 := h s hs
    have e2 : nods bo (M ++ e :: N) s = nods bo (M ++ N) s := by rw [nods_append, nods_append, nods_cons_ne (by rw [hq]; intro h; cases h; exact e1 rfl)]
    rw [e2] at h1
    refine h1.congr (fun n hn => updN_ne _ _ ?_) (fun n hn => updN_ne _ _ ?_)
    · rintro rfl; exact hA.drop.disj hs ht e1 hn hg
    · rintro rfl; exact hA.drop.disj hs ht e1 (ring_comm hn) hf

/-- An item joins at the end of a ring. -/
theorem Rings.join (h : Rings F G bo qb L T) (hA : Apt bo qb L T) (hq : e.q = some t) (ht : t ∈ T) (hb : ∀ a ∈ L, bo a.x.id ≠ bo e.x.id) :
    Rings (updN (updN F (.p (bo e.x.id)) (.e (qb t))) (G (.e (qb t))) (.p (bo e.x.id))) (updN (updN G (.p (bo e.x.id)) (G (.e (qb t)))) (.e (qb t)) (.p (bo e.x.id))) bo qb (L ++ [e]) T := by
  have hx : ∀ s, Nd.p (bo e.x.id) ∉ nods bo L s := fun s hm => by
    obtain ⟨a, ha, _, e2⟩ := mem_nods.1 hm
    injection e2 with e2
    exact hb a ha e2.symm
  intro s hs
  rw [nods_append]
  by_cases e1 : s = t
  · subst e1
    rw [nods_cons_same hq]
    refine (h s hs).join hA.ring_nodup e_not_nods (fun hm => ?_) (by simp)
    rcases List.mem_cons.1 hm with hm | hm
    · cases hm
    · exact hx _ hm
  · rw [nods_cons_ne (by rw [hq]; intro h; cases h; exact e1 rfl)]
    show Seg _ _ _ (nods bo L s ++ []) _
    rw [List.append_nil]
    have hl := (h t ht).last
    refine (h s hs).congr (fun n hn => ?_) (fun n hn => ?_)
    · rw [updN_ne, updN_ne]
      · rintro rfl
        rcases List.mem_cons.1 hn with hn | hn
        · cases hn
        · exact hx _ hn
      · rintro rfl
        exact hA.disj hs ht e1 hn hl
    · have hn := ring_comm hn
      rw [updN_ne, updN_ne]
      · rintro rfl
        rcases List.mem_cons.1 hn with hn | hn
        · cases hn
        · exact hx _ hn
      · rintro rfl
        exact hA.disj hs ht e1 hn (by simp)
/-- A queue more. -/
theorem Rings.more (h : Rings F G bo qb L T) (hA : Apt bo qb L T) (hin : ∀ e ∈ L, ∀ s, e.q = some s → s ∈ T) (ht : t ∉ T) (hb : ∀ s ∈ T, qb s ≠ qb t) :
    Rings (updN F (.e (qb t)) (.e (qb t))) (updN G (.e (qb t)) (.e (qb t))) bo qb L (T ++ [t]) := by
  intro s hs
  rcases List.mem_append.1 hs with hs | hs
  · refine (h s hs).congr (fun n hn => updN_ne _ _ ?_) (fun n hn => updN_ne _ _ ?_)
    · rintro rfl
      rcases List.mem_cons.1 hn with hn | hn
      · injection hn with hn; exact hb s hs hn.symm
      · exact e_not_nods hn
    · rintro rfl
      rcases List.mem_cons.1 (ring_comm hn) with hn | hn
      · injection hn with hn; exact hb s hs hn.symm
      · exact e_not_nods hn
  · simp at hs
    subst hs
    have : nods bo L s = [] := by
      rw [List.eq_nil_iff_forall_not_mem]
      intro n hn
      obtain ⟨a, ha, hq, _⟩ := mem_nods.1 hn
      exact ht (hin a ha s hq)
    rw [this]
    exact ⟨updN_same _ _ _, updN_same _ _ _⟩
end
end Go.Proofs.Ytncdohbdmpfefaa
