/-
  A set's queues and places: a place comes, joins a queue, leaves it.
-/
import Derived.Test.YtncdohbdmpfefaaCoQueue
namespace Go.Proofs.Ytncdohbdmpfefaa
open Go.RowKit Go.Maps Go.ChangeMaps

/-- Where each number's place is. -/
def placeF (bo : Int → Nat) (L : List En) (k : Int) : Option Nat := if hasI L k then some (bo k) else none
def updB (bo : Int → Nat) (k : Int) (b : Nat) : Int → Nat := fun j => if j = k then b else bo j

section
variable {w w' : World} {k mp hp : Nat} {qv : Value} {F G : Nd → Nd} {bo qb : Int → Nat} {L M N : List En} {T : List Int} {nx ad : Int} {e : En} {t : Int} {x : It} {b : Nat}
theorem updB_same : updB bo t b t = b := if_pos rfl
theorem updB_ne {s : Int} (h : s ≠ t) : updB bo t b s = bo s := if_neg h
theorem updB_on (h : hasI L t = false) : ∀ a ∈ L, updB bo t b a.x.id = bo a.x.id := fun a ha => updB_ne (hasI_false.1 h a ha)
theorem plc_none (h : hasI L t = false) : placeF bo L t = none := by simp [placeF, h]
theorem plc_some (h : hasI L t = true) : placeF bo L t = some (bo t) := by simp [placeF, h]
theorem plc_snoc (h : hasI L e.x.id = false) : placeF (updB bo e.x.id b) (L ++ [e]) = updF (placeF bo L) e.x.id (some b) := by
  funext j
  unfold placeF updF updB
  by_cases e1 : j = e.x.id
  · subst e1; simp [hasI]
  · have : hasI (L ++ [e]) j = hasI L j := by
      have e2 : ¬ (e.x.id = j) := fun e2 => e1 e2.symm
      simp [hasI, e2]
    rw [this, if_neg e1, if_neg e1]
theorem plc_same (h : ∀ j, hasI M j = hasI L j) : placeF bo M = placeF bo L := by
  funext j; unfold placeF; rw [h]
theorem hasI_mid : hasI (M ++ e :: N) e.x.id = true := hasI_true.2 ⟨e, by simp, rfl⟩
theorem plc_drop (h : ((M ++ e :: N).map fun e => e.x.id).Nodup) : placeF bo (M ++ N) = updF (placeF bo (M ++ e :: N)) e.x.id none := by
  obtain ⟨h1, h2, _⟩ := ids_split h
  funext j
  unfold placeF updF
  by_cases e1 : j = e.x.id
  · subst e1
    rw [if_pos rfl, if_neg]
    rw [hasI_false.2]
    · simp
    · intro y hy
      rcases List.mem_append.1 hy with hy | hy
      · exact h1 y hy
      · exact h2 y hy
  · have e2 : (e.x.id == j) = false := by simpa using fun e2 : e.x.id = j => e1 e2.symm
    have : hasI (M ++ N) j = hasI (M ++ e :: N) j := by simp [hasI, e2]
    rw [this, if_neg e1]
theorem nods_bo {bo' : Int → Nat} (h : ∀ a ∈ L, bo' a.x.id = bo a.x.id) : nods bo' L t = nods bo L t := by
  unfold nods
  exact List.map_congr_left fun a ha => by rw [h a (ofQ_mem.1 ha).1]

/-- A place comes, in no queue yet. -/
theorem Kr.snoc (h : Kr w k mp hp qv F G bo qb L T nx ad) (hb : Blk w b 74 #[.int .i64 x.id, .int .u64 x.d, .int .u64 x.n, .pointer none, .pointer none, .pointer none]) (hi : hasI L x.id = false) {n2 : Int} (hI : CInv (L ++ [⟨x, none⟩]) T n2) (hf : ¬ Fr k qv bo qb L T b) :
    Kr w k mp hp qv F G (updB bo x.id b) qb (L ++ [⟨x, none⟩]) T n2 ad := by
  have hne : ∀ a ∈ L, bo a.x.id ≠ b := fun a ha e => hf (.inr (.inr (.inr ⟨a, ha, e⟩)))
  refine ⟨h.kb, h.row, h.qs, fun a ha => ?_, fun s hs => ?_, hI⟩
  · rcases List.mem_append.1 ha with ha | ha
    · have := h.pl a ha
      have e1 := updB_on (bo := bo) (b := b) hi a ha
      unfold encPl at this ⊢
      rw [e1]
      exact this
    · simp at ha
      subst ha
      rw [updB_same]
      exact hb
  · rw [nods_append, nods_cons_ne (by simp), nods_bo (updB_on hi)]
    have := h.rings s hs
    simpa [nods, ofQ] using this
theorem Fr.snoc {i : Nat} (hi : hasI L x.id = false) {q : Option Int} (h : Fr k qv (updB bo x.id b) qb (L ++ [⟨x, q⟩]) T i) : Fr k qv bo qb L T i ∨ i = b := by
  rcases h with h | h | h | ⟨a, ha, h⟩
  · exact .inl (.inl h)
  · exact .inl (.inr (.inl h))
  · exact .inl (.inr (.inr (.inl h)))
  · rcases List.mem_append.1 ha with ha | ha
    · rw [updB_on hi a ha] at h; exact .inl (.inr (.inr (.inr ⟨a, ha, h⟩)))
    · simp at ha; subst ha; rw [updB_same] at h; exact .inr h.symm
theorem Fr.requ {i : Nat} {q q' : Option Int} (h : Fr k qv bo qb (L ++ [⟨x, q⟩]) T i) : Fr k qv bo qb (L ++ [⟨x, q'⟩]) T i := by
  rcases h with h | h | h | ⟨a, ha, h⟩
  · exact .inl h
  · exact .inr (.inl h)
  · exact .inr (.inr (.inl h))
  · rcases List.mem_append.1 ha with ha | ha
    · exact .inr (.inr (.inr ⟨a, by simp [ha], h⟩))
    · simp at ha; subst ha; exact .inr (.inr (.inr ⟨⟨x, q'⟩, by simp, h⟩))
theorem Fr.drop {i : Nat} (h : Fr k qv bo qb (M ++ N) T i) : Fr k qv bo qb (M ++ e :: N) T i := by
  rcases h with h | h | h | ⟨a, ha, h⟩
  · exact .inl h
  · exact .inr (.inl h)
  · exact .inr (.inr (.inl h))
  · exact .inr (.inr (.inr ⟨a, by rcases List.mem_append.1 ha with ha | ha <;> simp [ha], h⟩))
/-- A place that is in no queue goes. -/
theorem Kr.drop (h : Kr w k mp hp qv F G bo qb (M ++ e :: N) T nx ad) (hq : e.q = none) : Kr w k mp hp qv F G bo qb (M ++ N) T nx ad := by
  refine ⟨h.kb, h.row, h.qs, fun a ha => h.pl a (by rcases List.mem_append.1 ha with ha | ha <;> simp [ha]), fun s hs => ?_, h.inv.drop⟩
  have := h.rings s hs
  rwa [nods_append, nods_cons_ne (by rw [hq]; simp), ← nods_append] at this
theorem Nds.sub (h : Nds w F G bo qb L T) (hs : M.Sublist L) : Nds w F G bo qb M T :=
  ⟨h.qs, fun a ha => h.pl a (hs.subset ha), ⟨fun a ha c hc => h.apt.b a (hs.subset ha) c (hs.subset hc), h.apt.q, h.apt.ids.sublist (hs.map _)⟩⟩

/-- It joins a queue. -/
theorem join_kr (h : Kr w k mp hp qv F G bo qb (L ++ [⟨x, none⟩]) T nx ad) (ht : t ∈ T) (hI : CInv (L ++ [⟨x, some t⟩]) T nx) :
    Calls Try.prog 46 #[.pointer (some ⟨qb t, 0, none⟩), .pointer (some ⟨bo x.id, 0, none⟩)] w fun en w' =>
      en = .returned (.tuple #[]) ∧ (∃ F' G', Kr w' k mp hp qv F' G' bo qb (L ++ [⟨x, some t⟩]) T nx ad) ∧ Kept (Fn bo qb (L ++ [⟨x, none⟩]) T) w w' := by
  have hN := h.nds.sub (List.sublist_append_left L [⟨x, none⟩])
  have hA0 := h.apt
  have hA : Apt bo qb (L ++ [⟨x, some t⟩]) T := by
    have key : ∀ a ∈ L ++ [(⟨x, some t⟩ : En)], ∃ c ∈ L ++ [(⟨x, none⟩ : En)], c.x = a.x := fun a ha => by
      rcases List.mem_append.1 ha with ha | ha
      · exact ⟨a, by simp [ha], rfl⟩
      · simp at ha; subst ha; exact ⟨⟨x, none⟩, by simp, rfl⟩
    refine ⟨fun a ha c hc e => ?_, hA0.q, by simpa using hA0.ids⟩
    obtain ⟨a', ha', e1⟩ := key a ha
    obtain ⟨c', hc', e2⟩ := key c hc
    rw [← e1, ← e2] at e ⊢
    exact hA0.b a' ha' c' hc' e
  have hR : Rings F G bo qb L T := fun s hs => by
    have := h.rings s hs
    rw [nods_append, nods_cons_ne (by simp)] at this
    simpa [nods, ofQ] using this
  have hu := InR.of_ring (bo := bo) (L := L) ht (hR t ht).last
  have hb := h.pl ⟨x, none⟩ (by simp)
  refine (join_nodes hN x t ht hA hu hb).mono ?_
  rintro en w1 ⟨rfl, hN1, hk1⟩
  have hk2 : Kept (Fn bo qb (L ++ [⟨x, none⟩]) T) w w1 := hk1.mono fun i _ e => by
    rcases e with (e | ⟨a, ha, e⟩) | e
    · exact .inl e
    · exact .inr ⟨a, by simp [ha], e⟩
    · exact .inr ⟨⟨x, none⟩, by simp, e.symm⟩
  refine ⟨rfl, ⟨_, _, h.kb.kept hk2 h.k_not, RowK.own_kept h.row hk2 (fun i hi => (h.row_not hi).2), hN1.qs, hN1.pl, ?_, hI⟩, hk2⟩
  refine hR.join (e := ⟨x, some t⟩) hN.apt rfl ht fun a ha e => ?_
  have h1 := hA0.b a (by simp [ha]) ⟨x, none⟩ (by simp) e
  have h2 := hA0.ids
  rw [List.map_append, List.nodup_append] at h2
  exact h2.2.2 a.x.id (List.mem_map_of_mem (f := fun e : En => e.x.id) ha) x.id (by simp) h1

/-- It leaves its queue. -/
theorem leave_kr (h : Kr w k mp hp qv F G bo qb (M ++ e :: N) T nx ad) (hq : e.q = some t) (ht : t ∈ T) :
    Calls Try.prog 48 #[.pointer (some ⟨bo e.x.id, 0, none⟩)] w fun en w' =>
      en = .returned (.tuple #[]) ∧ (∃ F' G', Kr w' k mp hp qv F' G' bo qb (M ++ N) T nx ad ∧ Blk w' (bo e.x.id) 74 (encPl F' G' bo qb e)) ∧ Kept (Fn bo qb (M ++ e :: N) T) w w' := by
  have he : e ∈ M ++ e :: N := by simp
  obtain ⟨b1, b2, b3, b4⟩ := h.rings.beside h.apt hq ht
  have hs : ∀ a ∈ M ++ N, a ∈ M ++ e :: N := fun a ha => by rcases List.mem_append.1 ha with ha | ha <;> simp [ha]
  refine (leave_nodes h.nds e he (by rw [hq]; simp) ((InR.of_ring ht b1).mono hs) ((InR.of_ring ht b2).mono hs) b3 b4).mono ?_
  rintro en w1 ⟨rfl, hN1, hk1⟩
  exact ⟨rfl, ⟨_, _, ⟨h.kb.kept hk1 h.k_not, RowK.own_kept h.row hk1 (fun i hi => (h.row_not hi).2), hN1.qs, fun a ha => hN1.pl a (hs a ha), h.rings.leave h.apt hq ht, h.inv.drop⟩, hN1.pl e he⟩, hk1⟩

theorem lastD_le (h : CInv L T nx) {d : Int} (hd : 0 ≤ d) : (∀ e ∈ L, e.q = some t → e.x.d ≤ d) ↔ ¬ d < lastD L t := by
  unfold lastD
  cases e1 : (ofQ L t).getLast? with
  | none =>
    have e2 : ofQ L t = [] := List.getLast?_eq_none_iff.1 e1
    refine ⟨fun _ => by simp only; omega, fun _ e he hq => ?_⟩
    have := ofQ_mem.2 ⟨he, hq⟩
    rw [e2] at this; simp at this
  | some z =>
    obtain ⟨Z, hZ⟩ := List.getLast?_eq_some_iff.1 e1
    have hz : z ∈ ofQ L t := by rw [hZ]; simp
    have hzq := (ofQ_mem.1 hz).2
    simp only
    constructor
    · intro h1
      have := h1 z (ofQ_mem.1 hz).1 hzq
      omega
    · intro h1 e he hq
      have he2 := ofQ_mem.2 ⟨he, hq⟩
      have hp : (ofQ L t).Pairwise fun a b => a.q ≠ none → a.q = b.q → a.x.d ≤ b.x.d := h.qs.filter _
      rw [hZ] at he2 hp
      rcases List.mem_append.1 he2 with h2 | h2
      · have := (List.pairwise_append.1 hp).2.2 e h2 z (by simp) (by rw [hq]; simp) (by rw [hq, hzq])
        omega
      · simp at h2; subst h2; omega
theorem newQ_yes (h : CInv L T nx) (ht : t ∈ T) {d : Int} (hd : 0 ≤ d) (hl : ¬ d < lastD L t) : newQ L T t d = some t := if_pos ⟨ht, (lastD_le h hd).2 hl⟩
theorem newQ_no (h : CInv L T nx) {d : Int} (hd : 0 ≤ d) (hl : d < lastD L t) : newQ L T t d = none := if_neg fun e => (lastD_le h hd).1 e.2 hl
theorem newQ_out (ht : t ∉ T) {d : Int} : newQ L T t d = none := if_neg fun e => ht e.1
end
end Go.Proofs.Ytncdohbdmpfefaa
