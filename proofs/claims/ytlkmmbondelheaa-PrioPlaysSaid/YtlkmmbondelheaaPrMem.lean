/-
  How the queues lie in memory: their nodes, their map of places.
-/
import Derived.Test.YtlkmmbondelheaaCmMem
import Derived.Test.YtlkmmbondelheaaPrPure
namespace Go.Proofs.Ytlkmmbondelheaa
open Go.RowKit Go.Maps Go.ChangeMaps

theorem wfI {a : Int} (h : -9223372036854775808 ≤ a ∧ a ≤ 9223372036854775807) : (Lit.int .i64 a).wf = true := by
  simp [Lit.wf, IntKind.min, IntKind.max, IntKind.signed, IntKind.bits]; omega
theorem keyInt : Keyed Try.prog 3 := int_keyed Try.underlying3

/-- How a pointer to a place reads. -/
def ptrElem : Value → Option (DataW Unit × List MemPlace)
  | .pointer none => some (.lit (.int .i64 (-1)), [])
  | .pointer (some ⟨b, 0, none⟩) => some (.lit (.int .i64 (b : Int)), [])
  | _ => none
def ptrO : Option Nat → Value
  | none => .pointer none
  | some b => .pointer (some ⟨b, 0, none⟩)
def numO : Option Nat → Int
  | none => -1
  | some b => b
theorem ptrElem_mk (o : Option Nat) : ptrElem (ptrO o) = some (.lit (.int .i64 (numO o)), []) := by cases o <;> rfl
theorem ptrElem_inv {v : Value} {z : DataW Unit × List MemPlace} (h : ptrElem v = some z) : ∃ o, v = ptrO o ∧ z = (.lit (.int .i64 (numO o)), []) := by
  unfold ptrElem at h
  split at h
  · exact ⟨none, rfl, by cases h; rfl⟩
  · exact ⟨some _, rfl, by cases h; rfl⟩
  · cases h
theorem numO_inj {a b : Option Nat} (h : numO a = numO b) : a = b := by
  cases a <;> cases b <;> simp [numO] at h <;> first | rfl | omega | (congr 1; omega)

/-- The map of places: n keys, each with a place's block. -/
def Pm (w : World) (m n : Nat) (f : Int → Option Nat) : Prop :=
  ∃ D : DataW Unit, w.ownsMap Try.prog 3 ptrElem m n D ∧ Maps.size D = n ∧ ∀ k, Maps.has D (.int .i64 k) = (f k).isSome ∧ D.atKey (.int .i64 k) (.lit (.int .i64 (-1))) = .lit (.int .i64 (numO (f k)))

def updF (f : Int → Option Nat) (k : Int) (v : Option Nat) : Int → Option Nat := fun j => if j = k then v else f j

theorem own_tight {k : TypeId} {R : Value → Option (DataW Unit × List MemPlace)} {P : Program} {w : World} {b n : Nat} {D : DataW Unit} (h : w.ownsMap P k R b n D) : Maps.size D ≤ n ∧ w.ownsMap P k R b (Maps.size D) D := by
  obtain ⟨es, clock, hb, F, hs, rfl⟩ := h
  have e : es.size = Maps.size (DataW.map ((es.toList.map (WideElems.rg P k R)).foldr DataW.insert [])) := by
    rw [Maps.size_eq, length_sorted]
    simp
  exact ⟨by omega, es, clock, hb, F, by omega, rfl⟩
theorem isKeyI {a : Int} : WideAt.IsKeyLit (.int .i64 a) := trivial
theorem lit_ne {a b : Int} (h : a ≠ b) : (Lit.int .i64 a) ≠ .int .i64 b := fun e => h (by injection e)
theorem zeroPlace (w : World) : (zeroValue 66).run Try.prog w = .ok (.pointer none) w := by kernel_rfl

section
variable {w w' : World} {m n : Nat} {f : Int → Option Nat}
theorem Pm.lt (h : Pm w m n f) : m < w.heap.size := let ⟨_, h, _⟩ := h; h.lt
theorem Pm.same (h : Pm w m n f) (e : w'.heap[m]? = w.heap[m]?) : Pm w' m n f := by
  obtain ⟨D, ⟨es, clock, hb, r⟩, q⟩ := h
  exact ⟨D, ⟨es, clock, e.trans hb, r⟩, q⟩
theorem Pm.kept {F : Nat → Prop} (h : Pm w m n f) (k : Kept F w w') (hf : ¬ F m) : Pm w' m n f := h.same (k.block m h.lt hf)
theorem Pm.alloc (h : Pm w m n f) (o : Obj) : Pm (w.alloc o) m n f := h.same (Below.heap_alloc _ _ _ h.lt)
theorem Pm.made (w : World) : Pm (w.alloc (.map #[] 0)) w.heap.size 0 fun _ => none :=
  ⟨.map [], World.ownsMap_made _ _ _ _, rfl, fun k => ⟨rfl, rfl⟩⟩
theorem Pm.nomap (h : Pm w m n f) {cs : Array Value} {t : TypeId} {mk : Nat × Nat} (e : w.heap[m]? = some (.cells cs t mk)) : False := by
  obtain ⟨D, ⟨es, clock, hb, r⟩, q⟩ := h
  rw [hb] at e; cases e

/-- v, ok := m[k] -/
theorem Pm.look (h : Pm w m n f) {k : Int} (hk : -9223372036854775808 ≤ k ∧ k ≤ 9223372036854775807) : (Instr.lookup 69 (.map (some m)) (.int .i64 k) true).run Try.prog w = .ok (.tuple #[ptrO (f k), .bool (f k).isSome]) w := by
  obtain ⟨D, hD, _, hf⟩ := h
  obtain ⟨v, ps, hrun, hv⟩ := hD.look_ok keyInt Try.underlying69 (zeroPlace w) (ptrElem_mk none) (keyOf_int_mk Try.underlying3 (wfI hk))
  obtain ⟨o, rfl, hz⟩ := ptrElem_inv hv
  have e : f k = o := by
    have h1 := (hf k).2
    have h2 := (congrArg Prod.fst hz).symm.trans h1
    injection h2 with h2; injection h2 with _ h1
    exact (numO_inj h1).symm
  rw [hrun, (hf k).1, e]
theorem Pm.len (h : Pm w m n f) (ty : TypeId) : (Builtin.len_ #[69] ty #[.map (some m)]).run Try.prog w = .ok (.int .i64 (n : Int)) w := by
  obtain ⟨D, hD, hs, hf⟩ := h
  rw [hD.len Try.underlying69 ty, hs]
/-- m[k] = v, k a new key -/
theorem Pm.put (h : Pm w m n f) {k : Int} (hk : -9223372036854775808 ≤ k ∧ k ≤ 9223372036854775807) (hn : n ≤ 1000000) (b : Nat) (h0 : f k = none) :
    ∃ w', (Instr.mapUpdate 69 (.map (some m)) (.int .i64 k) (.pointer (some ⟨b, 0, none⟩))).run Try.prog w = .ok () w' ∧ Pm w' m (n + 1) (updF f k (some b)) ∧ Kept (fun i => i = m) w w' := by
  obtain ⟨D, hD, hs, hf⟩ := h
  obtain ⟨w', hrun, hD', ht⟩ := hD.store keyInt Try.underlying69 (by unfold maxLen; omega) (keyOf_int_mk Try.underlying3 (wfI hk)) (ptrElem_mk (some b))
  refine ⟨w', hrun, ⟨_, hD', ?_, fun j => ?_⟩, (Kept.refl _ w).grown ht.grown (fun k e _ => by cases e; rfl)⟩
  · rw [size_put (hD.tidy keyInt), (hf k).1, h0, hs]; rfl
  · unfold updF
    by_cases e : j = k
    · subst e; rw [if_pos rfl]; exact ⟨has_put_same hD.isMap isKeyI _, atKey_put_same hD.isMap isKeyI _ _⟩
    · rw [if_neg e]; exact ⟨(has_put_other (lit_ne e) _).trans (hf j).1, (atKey_put_other (lit_ne e) _ _).trans (hf j).2⟩
/-- delete(m, k), k a key -/
theorem Pm.del {D : DataW Unit} (hD : w.ownsMap Try.prog 3 ptrElem m (n + 1) D) (hs : Maps.size D = n + 1) (hf : ∀ k, Maps.has D (.int .i64 k) = (f k).isSome ∧ D.atKey (.int .i64 k) (.lit (.int .i64 (-1))) = .lit (.int .i64 (numO (f k)))) {k : Int} (h0 : (f k).isSome = true)
    (hD' : w'.ownsMap Try.prog 3 ptrElem m (n + 1) (D.del (.int .i64 k))) : Pm w' m n (updF f k none) := by
  have hz : Maps.size (D.del (.int .i64 k)) = n := by
    have := size_del (k := .int .i64 k) (hD.tidy keyInt)
    rw [(hf k).1, h0] at this
    simp at this; omega
  have hD2 := (own_tight hD').2
  rw [hz] at hD2
  refine ⟨_, hD2, hz, fun j => ?_⟩
  unfold updF
  by_cases e : j = k
  · subst e; rw [if_pos rfl]; exact ⟨has_del_same, atKey_del_same _⟩
  · rw [if_neg e]; exact ⟨(has_del_other (lit_ne e)).trans (hf j).1, (atKey_del_other (lit_ne e) _).trans (hf j).2⟩
end

/-- Where a node stands: g is the block of the ends. -/
def adr (g : Nat) : Nd → Addr
  | .e i => ⟨g, i * 6, none⟩
  | .p b => ⟨b, 0, none⟩
def nB (g : Nat) : Nd → Nat
  | .e _ => g
  | .p b => b
def nO : Nd → Nat
  | .e i => i * 6
  | .p _ => 0
theorem adr_eq (g : Nat) (n : Nd) : adr g n = ⟨nB g n, nO n, none⟩ := by cases n <;> rfl
def ptr (g : Nat) (n : Nd) : Value := .pointer (some (adr g n))
def encPl (F G : Nd → Nd) (g : Nat) (x : It) : Array Value := #[.int .i64 x.id, .int .i64 x.fl, .int .i64 x.ct, .int .i64 (x.pr : Int), ptr g (G (.p x.bk)), ptr g (F (.p x.bk))]

/-- The nodes: the ends in one block, each item in its own. -/
structure Nds (w : World) (g many : Nat) (F G : Nd → Nd) (L : List It) : Prop where
  ends : ∃ cs : Array Value, Blk w g 74 cs ∧ cs.size = many * 6 ∧ ∀ i, i < many → cs[i * 6 + 4]? = some (ptr g (G (.e i))) ∧ cs[i * 6 + 5]? = some (ptr g (F (.e i)))
  its : ∀ x ∈ L, Blk w x.bk 74 (encPl F G g x)
  gne : ∀ x ∈ L, x.bk ≠ g

section
variable {w w' : World} {g many : Nat} {F G : Nd → Nd} {L M : List It} {n v : Nd} {x : It}
theorem Nds.lt (h : Nds w g many F G L) (hn : InR many L n) : nB g n < w.heap.size := by
  cases n with
  | e i => obtain ⟨cs, hb, _⟩ := h.ends; exact hb.lt
  | p b => obtain ⟨x, hx, rfl⟩ := hn; exact (h.its x hx).lt
theorem Nds.behind (h : Nds w g many F G L) (hn : InR many L n) : w.cell? ⟨nB g n, nO n + 5, none⟩ = some (ptr g (F n)) := by
  cases n with
  | e i => obtain ⟨cs, hb, _, hc⟩ := h.ends; exact (hb.cell _).trans (hc i hn).2
  | p b => obtain ⟨x, hx, rfl⟩ := hn; exact (h.its x hx).cell 5
theorem Nds.before (h : Nds w g many F G L) (hn : InR many L n) : w.cell? ⟨nB g n, nO n + 4, none⟩ = some (ptr g (G n)) := by
  cases n with
  | e i => obtain ⟨cs, hb, _, hc⟩ := h.ends; exact (hb.cell _).trans (hc i hn).1
  | p b => obtain ⟨x, hx, rfl⟩ := hn; exact (h.its x hx).cell 4
theorem Nds.free (h : Nds w g many F G L) (hn : InR many L n) (j : Nat) : w.frozen? ⟨nB g n, j, none⟩ = false := by
  cases n with
  | e i => obtain ⟨cs, hb, _⟩ := h.ends; exact hb.frozen _
  | p b => obtain ⟨x, hx, rfl⟩ := hn; exact (h.its x hx).frozen _
theorem Nds.same (h : Nds w g many F G L) (eg : w'.heap[g]? = w.heap[g]?) (ei : ∀ x ∈ L, w'.heap[x.bk]? = w.heap[x.bk]?) : Nds w' g many F G L := by
  obtain ⟨cs, hb, r⟩ := h.ends
  exact ⟨⟨cs, hb.same eg, r⟩, fun x hx => (h.its x hx).same (ei x hx), h.gne⟩
theorem Nds.sub (h : Nds w g many F G L) (hs : ∀ x ∈ M, x ∈ L) : Nds w g many F G M := ⟨h.ends, fun x hx => h.its x (hs x hx), fun x hx => h.gne x (hs x hx)⟩

/-- n.behind = v -/
theorem Nds.setF (h : Nds w g many F G L) (hn : InR many L n) (hL : (L.map (·.bk)).Nodup) (v : Nd) : Nds (w.setCell ⟨nB g n, nO n + 5, none⟩ (ptr g v)) g many (updN F n v) G L := by
  obtain ⟨cs, hb, hs, hc⟩ := h.ends
  cases n with
  | e i =>
    have hi : i < many := hn
    refine ⟨⟨_, hb.set_ (i * 6 + 5) (ptr g v), by simpa using hs, fun j hj => ⟨?_, ?_⟩⟩, fun x hx => ?_, h.gne⟩
    · rw [Array.getElem?_setIfInBounds_ne (by omega)]; exact (hc j hj).1
    · by_cases e : i = j
      · subst e
        rw [Array.getElem?_setIfInBounds_self_of_lt (by omega), updN_same]
      · rw [Array.getElem?_setIfInBounds_ne (by omega), updN_ne _ _ (fun e2 => e (by injection e2 with e2; exact e2.symm))]; exact (hc j hj).2
    · have := (h.its x hx).far (p := ⟨nB g (.e i), nO (.e i) + 5, none⟩) (h.gne x hx) (ptr g v)
      unfold encPl at this ⊢
      rw [updN_ne _ _ (by simp)]
      exact this
  | p b =>
    obtain ⟨x, hx, rfl⟩ := hn
    refine ⟨⟨cs, hb.far (fun e => h.gne x hx e.symm) _, hs, fun j hj => by rw [updN_ne _ _ (by simp)]; exact hc j hj⟩, fun y hy => ?_, h.gne⟩
    by_cases e : y.bk = x.bk
    · have := bk_inj hL hy hx e
      subst this
      have := (h.its y hy).set_ 5 (ptr g v)
      unfold encPl at this ⊢
      rw [updN_same]
      simpa [nB, nO] using this
    · have := (h.its y hy).far (p := ⟨nB g (.p x.bk), nO (.p x.bk) + 5, none⟩) e (ptr g v)
      unfold encPl at this ⊢
      rw [updN_ne _ _ (fun e2 => e (by injection e2))]
      exact this
/-- n.before = v -/
theorem Nds.setG (h : Nds w g many F G L) (hn : InR many L n) (hL : (L.map (·.bk)).Nodup) (v : Nd) : Nds (w.setCell ⟨nB g n, nO n + 4, none⟩ (ptr g v)) g many F (updN G n v) L := by
  obtain ⟨cs, hb, hs, hc⟩ := h.ends
  cases n with
  | e i =>
    have hi : i < many := hn
    refine ⟨⟨_, hb.set_ (i * 6 + 4) (ptr g v), by simpa using hs, fun j hj => ⟨?_, ?_⟩⟩, fun x hx => ?_, h.gne⟩
    · by_cases e : i = j
      · subst e
        rw [Array.getElem?_setIfInBounds_self_of_lt (by omega), updN_same]
      · rw [Array.getElem?_setIfInBounds_ne (by omega), updN_ne _ _ (fun e2 => e (by injection e2 with e2; exact e2.symm))]; exact (hc j hj).1
    · rw [Array.getElem?_setIfInBounds_ne (by omega)]; exact (hc j hj).2
    · have := (h.its x hx).far (p := ⟨nB g (.e i), nO (.e i) + 4, none⟩) (h.gne x hx) (ptr g v)
      unfold encPl at this ⊢
      rw [updN_ne _ _ (by simp)]
      exact this
  | p b =>
    obtain ⟨x, hx, rfl⟩ := hn
    refine ⟨⟨cs, hb.far (fun e => h.gne x hx e.symm) _, hs, fun j hj => by rw [updN_ne _ _ (by simp)]; exact hc j hj⟩, fun y hy => ?_, h.gne⟩
    by_cases e : y.bk = x.bk
    · have := bk_inj hL hy hx e
      subst this
      have := (h.its y hy).set_ 4 (ptr g v)
      unfold encPl at this ⊢
      rw [updN_same]
      simpa [nB, nO] using this
    · have := (h.its y hy).far (p := ⟨nB g (.p x.bk), nO (.p x.bk) + 4, none⟩) e (ptr g v)
      unfold encPl at this ⊢
      rw [updN_ne _ _ (fun e2 => e (by injection e2))]
      exact this

/-- The blocks of the nodes. -/
def Fn (g : Nat) (L : List It) (k : Nat) : Prop := k = g ∨ ∃ x ∈ L, x.bk = k
theorem Fn.of (hn : InR many L n) : Fn g L (nB g n) := by
  cases n with
  | e i => exact .inl rfl
  | p b => obtain ⟨x, hx, rfl⟩ := hn; exact .inr ⟨x, hx, rfl⟩
theorem nB_ne (h : ∀ x ∈ L, x.bk ≠ g) (hx : x ∈ L) (hn : n ≠ .p x.bk) : nB g n ≠ x.bk := by
  cases n with
  | e i => exact fun e => h x hx e.symm
  | p b => exact fun e => hn (by rw [show b = x.bk from e])
end
end Go.Proofs.Ytlkmmbondelheaa
