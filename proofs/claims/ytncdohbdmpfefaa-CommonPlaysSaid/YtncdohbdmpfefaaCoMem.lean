/-
  How a set lies in memory: its queues, its places, its map of places.
-/
import Derived.Test.YtncdohbdmpfefaaCoRing
import Derived.Test.YtncdohbdmpfefaaCmRowN
namespace Go.Proofs.Ytncdohbdmpfefaa
open Go.RowKit Go.Maps Go.ChangeMaps

/-- How a pointer to a place reads. -/
def ptrElem : Value → Option (DataW Unit × List MemPlace)
  | .pointer none => some (.lit (.int .i64 (-1)), [])
  | .pointer (some ⟨b, 0, none⟩) => some (.lit (.int .i64 (b : Int)), [])
  | _ => none
def ptrO : Option Nat → Value
  | none => .pointer none
  | some b => .pointer (some ⟨b, 0, none⟩)
def numO : Option Nat → Int
  | none => -1
  | some b => b
theorem ptrElem_mk (o : Option Nat) : ptrElem (ptrO o) = some (.lit (.int .i64 (numO o)), []) := by cases o <;> rfl
theorem ptrElem_inv {v : Value} {z : DataW Unit × List MemPlace} (h : ptrElem v = some z) : ∃ o, v = ptrO o ∧ z = (.lit (.int .i64 (numO o)), []) := by
  unfold ptrElem at h
  split at h
  · exact ⟨none, rfl, by cases h; rfl⟩
  · exact ⟨some _, rfl, by cases h; rfl⟩
  · cases h
theorem numO_inj {a b : Option Nat} (h : numO a = numO b) : a = b := by
  cases a <;> cases b <;> simp [numO] at h <;> first | rfl | omega | (congr 1; omega)

/-- The map of places: n keys, each with a place's block. -/
def Pq (w : World) (m n : Nat) (f : Int → Option Nat) : Prop :=
  ∃ D : DataW Unit, w.ownsMap Try.prog 3 ptrElem m n D ∧ Maps.size D = n ∧ ∀ k, Maps.has D (.int .i64 k) = (f k).isSome ∧ D.atKey (.int .i64 k) (.lit (.int .i64 (-1))) = .lit (.int .i64 (numO (f k)))

theorem zeroPlace (w : World) : (zeroValue 67).run Try.prog w = .ok (.pointer none) w := by kernel_rfl

section
variable {w w' : World} {m n : Nat} {f : Int → Option Nat}
theorem Pq.lt (h : Pq w m n f) : m < w.heap.size := let ⟨_, h, _⟩ := h; h.lt
theorem Pq.same (h : Pq w m n f) (e : w'.heap[m]? = w.heap[m]?) : Pq w' m n f := by
  obtain ⟨D, ⟨es, clock, hb, r⟩, q⟩ := h
  exact ⟨D, ⟨es, clock, e.trans hb, r⟩, q⟩
theorem Pq.kept {F : Nat → Prop} (h : Pq w m n f) (k : Kept F w w') (hf : ¬ F m) : Pq w' m n f := h.same (k.block m h.lt hf)
theorem Pq.alloc (h : Pq w m n f) (o : Obj) : Pq (w.alloc o) m n f := h.same (Below.heap_alloc _ _ _ h.lt)
theorem Pq.made (w : World) : Pq (w.alloc (.map #[] 0)) w.heap.size 0 fun _ => none :=
  ⟨.map [], World.ownsMap_made _ _ _ _, rfl, fun k => ⟨rfl, rfl⟩⟩
theorem Pq.nomap (h : Pq w m n f) {cs : Array Value} {t : TypeId} {mk : Nat × Nat} (e : w.heap[m]? = some (.cells cs t mk)) : False := by
  obtain ⟨D, ⟨es, clock, hb, r⟩, q⟩ := h
  rw [hb] at e; cases e
theorem Pq.ne (h : Pq w m n f) {t : TypeId} {cs : Array Value} {a : Nat} (hb : Blk w a t cs) : a ≠ m := fun e => by subst e; exact h.nomap hb

set_option maxRecDepth 100000 in
/-- v, ok := m[k] -/
theorem Pq.look (h : Pq w m n f) {k : Int} (hk : -9223372036854775808 ≤ k ∧ k ≤ 9223372036854775807) : (Instr.lookup 64 (.map (some m)) (.int .i64 k) true).run Try.prog w = .ok (.tuple #[ptrO (f k), .bool (f k).isSome]) w := by
  obtain ⟨D, hD, _, hf⟩ := h
  obtain ⟨v, ps, hrun, hv⟩ := hD.look_ok keyInt Try.underlying64 (zeroPlace w) (ptrElem_mk none) (keyOf_int_mk Try.underlying3 (wfI hk))
  obtain ⟨o, rfl, hz⟩ := ptrElem_inv hv
  have e : f k = o := by
    have h1 := (hf k).2
    have h2 := (congrArg Prod.fst hz).symm.trans h1
    injection h2 with h2; injection h2 with _ h1
    exact (numO_inj h1).symm
  rw [hrun, (hf k).1, e]
theorem Pq.len (h : Pq w m n f) (ty : TypeId) : (Builtin.len_ #[64] ty #[.map (some m)]).run Try.prog w = .ok (.int .i64 (n : Int)) w := by
  obtain ⟨D, hD, hs, hf⟩ := h
  rw [hD.len Try.underlying64 ty, hs]
/-- m[k] = v, k a new key -/
theorem Pq.put (h : Pq w m n f) {k : Int} (hk : -9223372036854775808 ≤ k ∧ k ≤ 9223372036854775807) (hn : n ≤ 1000000) (b : Nat) (h0 : f k = none) :
    ∃ w', (Instr.mapUpdate 64 (.map (some m)) (.int .i64 k) (.pointer (some ⟨b, 0, none⟩))).run Try.prog w = .ok () w' ∧ Pq w' m (n + 1) (updF f k (some b)) ∧ Kept (fun i => i = m) w w' := by
  obtain ⟨D, hD, hs, hf⟩ := h
  obtain ⟨w', hrun, hD', ht⟩ := hD.store keyInt Try.underlying64 (by unfold maxLen; omega) (keyOf_int_mk Try.underlying3 (wfI hk)) (ptrElem_mk (some b))
  refine ⟨w', hrun, ⟨_, hD', ?_, fun j => ?_⟩, (Kept.refl _ w).grown ht.grown (fun k e _ => by cases e; rfl)⟩
  · rw [size_put (hD.tidy keyInt), (hf k).1, h0, hs]; rfl
  · unfold updF
    by_cases e : j = k
    · subst e; rw [if_pos rfl]; exact ⟨has_put_same hD.isMap isKeyI _, atKey_put_same hD.isMap isKeyI _ _⟩
    · rw [if_neg e]; exact ⟨(has_put_other (lit_ne e) _).trans (hf j).1, (atKey_put_other (lit_ne e) _ _).trans (hf j).2⟩
/-- delete(m, k), k a key -/
theorem Pq.del {D : DataW Unit} (hD : w.ownsMap Try.prog 3 ptrElem m (n + 1) D) (hs : Maps.size D = n + 1) (hf : ∀ k, Maps.has D (.int .i64 k) = (f k).isSome ∧ D.atKey (.int .i64 k) (.lit (.int .i64 (-1))) = .lit (.int .i64 (numO (f k)))) {k : Int} (h0 : (f k).isSome = true)
    (hD' : w'.ownsMap Try.prog 3 ptrElem m (n + 1) (D.del (.int .i64 k))) : Pq w' m n (updF f k none) := by
  have hz : Maps.size (D.del (.int .i64 k)) = n := by
    have := size_del (k := .int .i64 k) (hD.tidy keyInt)
    rw [(hf k).1, h0] at this
    simp at this; omega
  have hD2 := (own_tight hD').2
  rw [hz] at hD2
  refine ⟨_, hD2, hz, fun j => ?_⟩
  unfold updF
  by_cases e : j = k
  · subst e; rw [if_pos rfl]; exact ⟨has_del_same, atKey_del_same _⟩
  · rw [if_neg e]; exact ⟨(has_del_other (lit_ne e)).trans (hf j).1, (atKey_del_other (lit_ne e) _).trans (hf j).2⟩
end

/-- Where a node stands. -/
def adr : Nd → Addr
  | .e b => ⟨b, 1, none⟩
  | .p b => ⟨b, 0, none⟩
def nB : Nd → Nat
  | .e b => b
  | .p b => b
def nO : Nd → Nat
  | .e _ => 1
  | .p _ => 0
theorem adr_eq (n : Nd) : adr n = ⟨nB n, nO n, none⟩ := by cases n <;> rfl
def ptr (n : Nd) : Value := .pointer (some (adr n))
/-- A link, if there is a queue. -/
def lk (q : Option Int) (n : Nd) : Value := match q with | none => .pointer none | some _ => ptr n
def encPl (F G : Nd → Nd) (bo qb : Int → Nat) (e : En) : Array Value := #[.int .i64 e.x.id, .int .u64 e.x.d, .int .u64 e.x.n, ptrO (e.q.map qb), lk e.q (G (.p (bo e.x.id))), lk e.q (F (.p (bo e.x.id)))]
def encQu (F G : Nd → Nd) (qb : Int → Nat) (t : Int) : Array Value := #[.int .u64 t, .int .i64 0, .int .u64 0, .int .u64 0, .pointer none, ptr (G (.e (qb t))), ptr (F (.e (qb t)))]

/-- The row of the queues. -/
def rowQ : RowK Try.prog Nat where
  e := 71
  s := 63
  n := 1
  bytes := 8
  zero := .pointer none
  enc := fun b => [.pointer (some ⟨b, 0, none⟩)]
  pos := by decide
  by_ := by decide
  len := fun _ => rfl
  one := fun x u hu => by simp at hu; subst hu; rfl
  und := Try.underlying63
  info := by kernel_rfl
  zs := rfl

theorem blk_ne {w : World} {t t' : TypeId} {cs cs' : Array Value} {a b : Nat} (h : Blk w a t cs) (h' : Blk w b t' cs') (ht : t ≠ t') : a ≠ b := fun e => by
  subst e
  unfold Blk at h h'
  rw [h] at h'
  injection h' with h'; injection h' with _ h'
  exact ht h'

/-- What a set keeps, its map and its heap aside. -/
structure Kr (w : World) (k mp hp : Nat) (qv : Value) (F G : Nd → Nd) (bo qb : Int → Nat) (L : List En) (T : List Int) (nx ad : Int) : Prop where
  kb : Blk w k 66 #[.pointer (some ⟨hp, 0, none⟩), qv, .map (some mp), .int .u64 ad]
  row : rowQ.own w 0 qv (T.map qb)
  qs : ∀ t ∈ T, Blk w (qb t) 84 (encQu F G qb t)
  pl : ∀ e ∈ L, Blk w (bo e.x.id) 74 (encPl F G bo qb e)
  rings : Rings F G bo qb L T
  inv : CInv L T nx

/-- Its blocks. -/
def Fr (k : Nat) (qv : Value) (bo qb : Int → Nat) (L : List En) (T : List Int) (i : Nat) : Prop := i = k ∨ qv.ownBlock = some i ∨ (∃ t ∈ T, qb t = i) ∨ ∃ e ∈ L, bo e.x.id = i
/-- The blocks of its nodes. -/
def Fn (bo qb : Int → Nat) (L : List En) (T : List Int) (i : Nat) : Prop := (∃ t ∈ T, qb t = i) ∨ ∃ e ∈ L, bo e.x.id = i
/-- A node of the rings. -/
def InR (bo qb : Int → Nat) (L : List En) (T : List Int) : Nd → Prop
  | .e b => ∃ t ∈ T, qb t = b
  | .p b => ∃ e ∈ L, e.q ≠ none ∧ bo e.x.id = b

section
variable {w w' : World} {k mp hp : Nat} {qv : Value} {F G : Nd → Nd} {bo qb : Int → Nat} {L M N : List En} {T : List Int} {nx ad : Int} {n v : Nd} {e : En} {t : Int}
theorem Kr.apt (h : Kr w k mp hp qv F G bo qb L T nx ad) : Apt bo qb L T := by
  refine ⟨fun a ha c hc e1 => ?_, fun s hs t ht e1 => ?_, h.inv.ids⟩
  · have h1 := h.pl a ha
    have h2 := h.pl c hc
    unfold Blk at h1 h2
    rw [e1, h2] at h1
    unfold encPl at h1
    simp at h1
    exact h1.1.symm
  · have h1 := h.qs s hs
    have h2 := h.qs t ht
    unfold Blk at h1 h2
    rw [e1, h2] at h1
    unfold encQu at h1
    simp at h1
    exact h1.1.symm
theorem Kr.lt (h : Kr w k mp hp qv F G bo qb L T nx ad) {i : Nat} (hi : Fr k qv bo qb L T i) : i < w.heap.size := by
  rcases hi with rfl | hi | ⟨t, ht, rfl⟩ | ⟨e, he, rfl⟩
  · exact h.kb.lt
  · exact (RowK.own_lt h.row hi).1
  · exact (h.qs t ht).lt
  · exact (h.pl e he).lt
theorem Kr.same (h : Kr w k mp hp qv F G bo qb L T nx ad) (e : ∀ i, Fr k qv bo qb L T i → w'.heap[i]? = w.heap[i]?) : Kr w' k mp hp qv F G bo qb L T nx ad :=
  ⟨h.kb.same (e k (.inl rfl)), RowK.own_same h.row (fun i hi => e i (.inr (.inl hi))), fun t ht => (h.qs t ht).same (e _ (.inr (.inr (.inl ⟨t, ht, rfl⟩)))), fun a ha => (h.pl a ha).same (e _ (.inr (.inr (.inr ⟨a, ha, rfl⟩)))), h.rings, h.inv⟩
theorem Kr.kept {J : Nat → Prop} (h : Kr w k mp hp qv F G bo qb L T nx ad) (j : Kept J w w') (hj : ∀ i, Fr k qv bo qb L T i → ¬ J i) : Kr w' k mp hp qv F G bo qb L T nx ad :=
  h.same fun i hi => j.block i (h.lt hi) (hj i hi)
theorem Fn.fr {i : Nat} (h : Fn bo qb L T i) : Fr k qv bo qb L T i := .inr (.inr h)
theorem InR.fn (h : InR bo qb L T n) : Fn bo qb L T (nB n) := by
  cases n with
  | e b => exact .inl h
  | p b => obtain ⟨e, he, _, hb⟩ := h; exact .inr ⟨e, he, hb⟩
theorem InR.of_ring (ht : t ∈ T) (h : n ∈ Nd.e (qb t) :: nods bo L t) : InR bo qb L T n := by
  rcases List.mem_cons.1 h with rfl | h
  · exact ⟨t, ht, rfl⟩
  · obtain ⟨a, ha, hq, rfl⟩ := mem_nods.1 h
    exact ⟨a, ha, by rw [hq]; simp, rfl⟩
theorem InR.mono (h : InR bo qb M T n) (hs : ∀ a ∈ M, a ∈ L) : InR bo qb L T n := by
  cases n with
  | e b => exact h
  | p b => obtain ⟨e, he, r⟩ := h; exact ⟨e, hs e he, r⟩
/-- The row's block is no node's. -/
theorem Kr.row_not (h : Kr w k mp hp qv F G bo qb L T nx ad) {i : Nat} (hi : qv.ownBlock = some i) : i ≠ k ∧ ¬ Fn bo qb L T i := by
  rcases h.row.2 with ⟨e, _⟩ | ⟨g, cap, cur, rfl, _, hg, _⟩
  · rw [e] at hi; cases hi
  · have e1 : g = i := Option.some.inj hi
    subst e1
    have hb : Blk w g 71 cur := hg
    refine ⟨blk_ne hb h.kb (by decide), ?_⟩
    rintro (⟨t, ht, e⟩ | ⟨a, ha, e⟩)
    · exact blk_ne (h.qs t ht) hb (by decide) e
    · exact blk_ne (h.pl a ha) hb (by decide) e
theorem Kr.k_not (h : Kr w k mp hp qv F G bo qb L T nx ad) : ¬ Fn bo qb L T k := by
  rintro (⟨t, ht, e⟩ | ⟨a, ha, e⟩)
  · exact blk_ne (h.qs t ht) h.kb (by decide) e
  · exact blk_ne (h.pl a ha) h.kb (by decide) e

/-- The nodes' blocks alone. -/
structure Nds (w : World) (F G : Nd → Nd) (bo qb : Int → Nat) (L : List En) (T : List Int) : Prop where
  qs : ∀ t ∈ T, Blk w (qb t) 84 (encQu F G qb t)
  pl : ∀ e ∈ L, Blk w (bo e.x.id) 74 (encPl F G bo qb e)
  apt : Apt bo qb L T
theorem Kr.nds (h : Kr w k mp hp qv F G bo qb L T nx ad) : Nds w F G bo qb L T := ⟨h.qs, h.pl, h.apt⟩
theorem Nds.same (h : Nds w F G bo qb L T) (e : ∀ i, Fn bo qb L T i → w'.heap[i]? = w.heap[i]?) : Nds w' F G bo qb L T :=
  ⟨fun t ht => (h.qs t ht).same (e _ (.inl ⟨t, ht, rfl⟩)), fun a ha => (h.pl a ha).same (e _ (.inr ⟨a, ha, rfl⟩)), h.apt⟩
theorem Nds.lt (h : Nds w F G bo qb L T) (hn : InR bo qb L T n) : nB n < w.heap.size := by
  cases n with
  | e b => obtain ⟨t, ht, rfl⟩ := hn; exact (h.qs t ht).lt
  | p b => obtain ⟨a, ha, _, rfl⟩ := hn; exact (h.pl a ha).lt
theorem lk_some {q : Option Int} (h : q ≠ none) (n : Nd) : lk q n = ptr n := by cases q with | none => exact absurd rfl h | some t => rfl
theorem Nds.behind (h : Nds w F G bo qb L T) (hn : InR bo qb L T n) : w.cell? ⟨nB n, nO n + 5, none⟩ = some (ptr (F n)) := by
  cases n with
  | e b => obtain ⟨t, ht, rfl⟩ := hn; exact (h.qs t ht).cell 6
  | p b => obtain ⟨a, ha, hq, rfl⟩ := hn; exact ((h.pl a ha).cell 5).trans (by rw [← lk_some hq]; rfl)
theorem Nds.before (h : Nds w F G bo qb L T) (hn : InR bo qb L T n) : w.cell? ⟨nB n, nO n + 4, none⟩ = some (ptr (G n)) := by
  cases n with
  | e b => obtain ⟨t, ht, rfl⟩ := hn; exact (h.qs t ht).cell 5
  | p b => obtain ⟨a, ha, hq, rfl⟩ := hn; exact ((h.pl a ha).cell 4).trans (by rw [← lk_some hq]; rfl)
theorem Nds.free (h : Nds w F G bo qb L T) (hn : InR bo qb L T n) (j : Nat) : w.frozen? ⟨nB n, j, none⟩ = false := by
  cases n with
  | e b => obtain ⟨t, ht, rfl⟩ := hn; exact (h.qs t ht).frozen _
  | p b => obtain ⟨a, ha, _, rfl⟩ := hn; exact (h.pl a ha).frozen _
theorem Nds.qp (h : Nds w F G bo qb L T) (ht : t ∈ T) (ha : e ∈ L) : qb t ≠ bo e.x.id := blk_ne (h.qs t ht) (h.pl e ha) (by decide)
theorem Nds.p_inj (h : Nds w F G bo qb L T) {a : En} (ha : a ∈ L) (he : e ∈ L) (e1 : bo a.x.id = bo e.x.id) : a = e := en_inj h.apt.ids ha he (h.apt.b a ha e he e1)

/-- n.behind = v -/
theorem Nds.setF (h : Nds w F G bo qb L T) (hn : InR bo qb L T n) (v : Nd) : Nds (w.setCell ⟨nB n, nO n + 5, none⟩ (ptr v)) (updN F n v) G bo qb L T := by
  cases n with
  | e b =>
    obtain ⟨s, hs, rfl⟩ := hn
    refine ⟨fun t ht => ?_, fun a ha => ?_, h.apt⟩
    · by_cases e1 : t = s
      · subst e1
        have := (h.qs t ht).set_ 6 (ptr v)
        unfold encQu at this ⊢
        rw [updN_same]
        simpa [nB, nO] using this
      · have hne : qb t ≠ qb s := fun e2 => e1 (h.apt.q t ht s hs e2)
        have := (h.qs t ht).far (p := ⟨nB (.e (qb s)), nO (.e (qb s)) + 5, none⟩) hne (ptr v)
        unfold encQu at this ⊢
        rw [updN_ne _ _ (fun e2 => hne (by injection e2))]
        exact this
    · have := (h.pl a ha).far (p := ⟨nB (.e (qb s)), nO (.e (qb s)) + 5, none⟩) (fun e2 => h.qp hs ha e2.symm) (ptr v)
      unfold encPl at this ⊢
      rw [updN_ne _ _ (by simp)]
      exact this
  | p b =>
    obtain ⟨c, hc, hq, rfl⟩ := hn
    refine ⟨fun t ht => ?_, fun a ha => ?_, h.apt⟩
    · have := (h.qs t ht).far (p := ⟨nB (.p (bo c.x.id)), nO (.p (bo c.x.id)) + 5, none⟩) (h.qp ht hc) (ptr v)
      unfold encQu at this ⊢
      rw [updN_ne _ _ (by simp)]
      exact this
    · by_cases e1 : bo a.x.id = bo c.x.id
      · have := h.p_inj ha hc e1
        subst this
        have := (h.pl a ha).set_ 5 (ptr v)
        unfold encPl at this ⊢
        rw [updN_same, lk_some hq, lk_some hq]
        rw [lk_some hq] at this
        simpa [nB, nO] using this
      · have := (h.pl a ha).far (p := ⟨nB (.p (bo c.x.id)), nO (.p (bo c.x.id)) + 5, none⟩) e1 (ptr v)
        unfold encPl at this ⊢
        rw [updN_ne _ _ (fun e2 => e1 (by injection e2))]
        exact this
/-- n.before = v -/
theorem Nds.setG (h : Nds w F G bo qb L T) (hn : InR bo qb L T n) (v : Nd) : Nds (w.setCell ⟨nB n, nO n + 4, none⟩ (ptr v)) F (updN G n v) bo qb L T := by
  cases n with
  | e b =>
    obtain ⟨s, hs, rfl⟩ := hn
    refine ⟨fun t ht => ?_, fun a ha => ?_, h.apt⟩
    · by_cases e1 : t = s
      · subst e1
        have := (h.qs t ht).set_ 5 (ptr v)
        unfold encQu at this ⊢
        rw [updN_same]
        simpa [nB, nO] using this
      · have hne : qb t ≠ qb s := fun e2 => e1 (h.apt.q t ht s hs e2)
        have := (h.qs t ht).far (p := ⟨nB (.e (qb s)), nO (.e (qb s)) + 4, none⟩) hne (ptr v)
        unfold encQu at this ⊢
        rw [updN_ne _ _ (fun e2 => hne (by injection e2))]
        exact this
    · have := (h.pl a ha).far (p := ⟨nB (.e (qb s)), nO (.e (qb s)) + 4, none⟩) (fun e2 => h.qp hs ha e2.symm) (ptr v)
      unfold encPl at this ⊢
      rw [updN_ne _ _ (by simp)]
      exact this
  | p b =>
    obtain ⟨c, hc, hq, rfl⟩ := hn
    refine ⟨fun t ht => ?_, fun a ha => ?_, h.apt⟩
    · have := (h.qs t ht).far (p := ⟨nB (.p (bo c.x.id)), nO (.p (bo c.x.id)) + 4, none⟩) (h.qp ht hc) (ptr v)
      unfold encQu at this ⊢
      rw [updN_ne _ _ (by simp)]
      exact this
    · by_cases e1 : bo a.x.id = bo c.x.id
      · have := h.p_inj ha hc e1
        subst this
        have := (h.pl a ha).set_ 4 (ptr v)
        unfold encPl at this ⊢
        rw [updN_same, lk_some hq, lk_some hq]
        rw [lk_some hq, lk_some hq] at this
        simpa [nB, nO] using this
      · have := (h.pl a ha).far (p := ⟨nB (.p (bo c.x.id)), nO (.p (bo c.x.id)) + 4, none⟩) e1 (ptr v)
        unfold encPl at this ⊢
        rw [updN_ne _ _ (fun e2 => e1 (by injection e2))]
        exact this
theorem nB_ne (h : Nds w F G bo qb L T) (he : e ∈ L) (hn : InR bo qb L T n) (hne : n ≠ .p (bo e.x.id)) : nB n ≠ bo e.x.id := by
  cases n with
  | e b => obtain ⟨t, ht, rfl⟩ := hn; exact h.qp ht he
  | p b => exact fun e => hne (by rw [show b = _ from e])
end
end Go.Proofs.Ytncdohbdmpfefaa
