/-
  How chains lie in memory: which cells a chain owns, what a step leaves as it was, cell by cell.
-/
import Derived.Test.YtkhkhjkacibocaaChPure
namespace Go.Proofs.Ytkhkhjkacibocaa
open Go.RowKit Go.Maps Go.ChangeMaps

def ptrO : Option Nat → Value
  | none => .pointer none
  | some b => .pointer (some ⟨b, 0, none⟩)

/-- A block as it was, but for the cells of D. -/
def Agr (D : Nat → Prop) (o o' : Option Obj) : Prop := o' = o ∨ ∃ cs cs' t, o = some (.cells cs t (0, 0)) ∧ o' = some (.cells cs' t (0, 0)) ∧ cs'.size = cs.size ∧ ∀ i, ¬ D i → cs'[i]? = cs[i]?
theorem Agr.refl (D : Nat → Prop) (o : Option Obj) : Agr D o o := .inl rfl
theorem Agr.trans {D : Nat → Prop} {a b c : Option Obj} (h : Agr D a b) (k : Agr D b c) : Agr D a c := by
  rcases h with rfl | ⟨cs, cs', t, rfl, rfl, h1, h2⟩
  · exact k
  · rcases k with rfl | ⟨ds, ds', u, e, rfl, k1, k2⟩
    · exact .inr ⟨cs, cs', t, rfl, rfl, h1, h2⟩
    · cases e
      exact .inr ⟨cs, ds', t, rfl, rfl, k1.trans h1, fun i hi => (k2 i hi).trans (h2 i hi)⟩
theorem Agr.mono {D E : Nat → Prop} {a b : Option Obj} (h : Agr D a b) (hD : ∀ i, D i → E i) : Agr E a b := by
  rcases h with h | ⟨cs, cs', t, h1, h2, h3, h4⟩
  · exact .inl h
  · exact .inr ⟨cs, cs', t, h1, h2, h3, fun i hi => h4 i fun e => hi (hD i e)⟩
theorem Agr.none {D : Nat → Prop} {a b : Option Obj} (h : Agr D a b) (hD : ∀ i, ¬ D i) : b = a := by
  rcases h with h | ⟨cs, cs', t, rfl, rfl, h3, h4⟩
  · exact h
  · have : cs' = cs := Array.ext_getElem? fun i => h4 i (hD i)
    rw [this]

/-- w' is w with new blocks, and writes to the cells of D alone. -/
structure Kc (D : Nat → Nat → Prop) (w w' : World) : Prop where
  os : w'.os = w.os
  tape : w'.tape = w.tape
  output : w'.output = w.output
  size : w.heap.size ≤ w'.heap.size
  block : ∀ k, k < w.heap.size → Agr (D k) w.heap[k]? w'.heap[k]?
def No2 (_ _ : Nat) : Prop := False
section
variable {D E : Nat → Nat → Prop} {a b c w w' : World}
theorem Kc.refl (D : Nat → Nat → Prop) (w : World) : Kc D w w := ⟨rfl, rfl, rfl, Nat.le_refl _, fun _ _ => .refl _ _⟩
theorem Kc.trans (h : Kc D a b) (k : Kc D b c) : Kc D a c :=
  ⟨k.os.trans h.os, k.tape.trans h.tape, k.output.trans h.output, Nat.le_trans h.size k.size, fun i hi => (h.block i hi).trans (k.block i (Nat.lt_of_lt_of_le hi h.size))⟩
/-- The second step may write what the first one has laid. -/
theorem Kc.andThen (h : Kc D a b) (k : Kc E b c) (hE : ∀ i j, i < a.heap.size → E i j → D i j) : Kc D a c :=
  ⟨k.os.trans h.os, k.tape.trans h.tape, k.output.trans h.output, Nat.le_trans h.size k.size, fun i hi => (h.block i hi).trans ((k.block i (Nat.lt_of_lt_of_le hi h.size)).mono fun j => hE i j hi)⟩
theorem Kc.mono (h : Kc D a b) (hD : ∀ i j, i < a.heap.size → D i j → E i j) : Kc E a b := ⟨h.os, h.tape, h.output, h.size, fun k hk => (h.block k hk).mono fun j => hD k j hk⟩
theorem Kc.of_kept (h : Kept (fun _ => False) a b) : Kc D a b := ⟨h.os, h.tape, h.output, h.size, fun k hk => .inl (h.block k hk fun e => e)⟩
theorem Kc.kept (h : Kc D a b) : Kept (fun k => ∃ j, D k j) a b := ⟨h.os, h.tape, h.output, h.size, fun k hk hn => (h.block k hk).none fun i hi => hn ⟨i, hi⟩⟩
theorem Kc.quiet (h : Kc D a b) (hD : ∀ i j, i < a.heap.size → ¬ D i j) : Kept (fun _ => False) a b := h.kept.mono fun k hk ⟨j, hj⟩ => hD k j hk hj
theorem Kc.drewN (h : Kc D a b) (n : Nat) : Kc D a (b.drewN n) := ⟨h.os, h.tape, h.output, h.size, h.block⟩
theorem Kc.drew (h : Kc D a b) : Kc D a b.drew := ⟨h.os, h.tape, h.output, h.size, h.block⟩
theorem Kc.alloc (h : Kc D a b) (o : Obj) : Kc D a (b.alloc o) := h.trans (Kc.of_kept ((Kept.refl _ b).alloc o))
theorem Kc.below {B : Nat} (h : Kc D a b) (hD : ∀ i j, i < a.heap.size → D i j → B ≤ i) (hB : B ≤ a.heap.size) : Below B a b := h.kept.below' (fun k hk ⟨j, hj⟩ => hD k j hk hj) hB
theorem Kc.same (h : Kc D a b) {k : Nat} (hk : k < a.heap.size) (hD : ∀ j, ¬ D k j) : b.heap[k]? = a.heap[k]? := (h.block k hk).none hD
theorem Kc.setCell (h : Kc D a b) {p : Addr} {t : TypeId} {cs : Array Value} (hb : Blk b p.block t cs) (hp : p.spot = none) (hd : p.block < a.heap.size → D p.block p.off) (u : Value) : Kc D a (b.setCell p u) := by
  obtain ⟨g, i, s⟩ := p
  simp only at hp hd hb
  subst hp
  refine ⟨h.os, h.tape, h.output, by simpa [World.setCell] using h.size, fun k hk => ?_⟩
  by_cases e : k = g
  · subst e
    refine (h.block k hk).trans (.inr ⟨cs, cs.setIfInBounds i u, t, hb, hb.set_ i u, by simp, fun j hj => ?_⟩)
    exact Array.getElem?_setIfInBounds_ne fun (e : i = j) => hj (by subst e; exact hd hk)
  · rw [Below.heap_setCell _ _ _ _ e]; exact h.block k hk
theorem Blk.kc {g : Nat} {t : TypeId} {cs : Array Value} (h : Blk w g t cs) (k : Kc D w w') (hD : ∀ j, ¬ D g j) : Blk w' g t cs := h.same (k.same h.lt hD)
/-- Of a block that is written in part. -/
theorem Blk.part {g : Nat} {t : TypeId} {cs : Array Value} (h : Blk w g t cs) (k : Kc D w w') : ∃ cs', Blk w' g t cs' ∧ cs'.size = cs.size ∧ ∀ i, ¬ D g i → cs'[i]? = cs[i]? := by
  rcases k.block g h.lt with e | ⟨ds, ds', u, e1, e2, h1, h2⟩
  · exact ⟨cs, h.same e, rfl, fun _ _ => rfl⟩
  · unfold Blk at h
    rw [h] at e1; cases e1
    exact ⟨ds', e2, h1, h2⟩
end

/-- The cells that a chunk owns. -/
def Own (x : Lk) (k i : Nat) : Prop := k = x.lb ∨ (k = x.g ∧ x.off ≤ i ∧ i < x.off + x.cap)
def Apart (x y : Lk) : Prop := ∀ k i, Own x k i → ¬ Own y k i
theorem Apart.symm {x y : Lk} (h : Apart x y) : Apart y x := fun k i a b => h k i b a
/-- A chunk in memory, and which one is behind it. -/
structure LkAt (w : World) (x : Lk) (nx : Option Nat) : Prop where
  blk : Blk w x.lb 72 #[.slice (some ⟨x.g, x.off, none⟩) x.bs.length x.cap, ptrO nx]
  pos : 0 < x.bs.length
  fit : x.bs.length ≤ x.cap
  big : x.cap ≤ 1048576
  dat : ∃ cs, Blk w x.g 5 cs ∧ x.off + x.cap ≤ cs.size ∧ ∀ i z, x.bs[i]? = some z → cs[x.off + i]? = some (.int .u8 z)
def Lks (w : World) : List Lk → Prop
  | [] => True
  | x :: L => LkAt w x (hdO L) ∧ Lks w L
def Fl (L : List Lk) (k i : Nat) : Prop := ∃ x ∈ L, Own x k i
def Fc (c : Nat) (L : List Lk) (k i : Nat) : Prop := k = c ∨ Fl L k i

section
variable {D : Nat → Nat → Prop} {w w' : World} {x y : Lk} {nx : Option Nat} {L M : List Lk} {B c k i : Nat} {t : TypeId} {cs : Array Value}
theorem LkAt.kc (h : LkAt w x nx) (k : Kc D w w') (hD : ∀ k i, Own x k i → ¬ D k i) : LkAt w' x nx := by
  obtain ⟨cs, h1, h2, h3⟩ := h.dat
  obtain ⟨cs', g1, g2, g3⟩ := h1.part k
  refine ⟨h.blk.kc k fun j hj => hD _ _ (.inl rfl) hj, h.pos, h.fit, h.big, cs', g1, by omega, fun i z hz => (g3 _ fun hd => ?_).trans (h3 i z hz)⟩
  have hi := (List.getElem?_eq_some_iff.1 hz).1
  have := h.fit
  exact hD _ _ (.inr ⟨rfl, by omega, by omega⟩) hd
theorem LkAt.ne (h : LkAt w x nx) : x.lb ≠ x.g := fun e => by
  obtain ⟨cs, h1, _⟩ := h.dat
  have h2 := h.blk
  unfold Blk at h1 h2
  rw [e, h1] at h2
  injection h2 with h2; injection h2 with _ h2; revert h2; decide
theorem LkAt.lt (h : LkAt w x nx) (ho : Own x k i) : k < w.heap.size := by
  rcases ho with rfl | ⟨rfl, _⟩
  · exact h.blk.lt
  · obtain ⟨cs, h1, _⟩ := h.dat; exact h1.lt
theorem Lks.mem (h : Lks w L) (hx : x ∈ L) : ∃ nx, LkAt w x nx := by
  induction L with
  | nil => cases hx
  | cons y L ih =>
    rcases List.mem_cons.1 hx with rfl | hx
    · exact ⟨_, h.1⟩
    · exact ih h.2 hx
theorem Lks.lt (h : Lks w L) (hk : Fl L k i) : k < w.heap.size := by
  obtain ⟨x, hx, ho⟩ := hk
  obtain ⟨nx, hl⟩ := h.mem hx
  exact hl.lt ho
theorem Lks.kc : ∀ {L : List Lk} (_ : Lks w L) (_ : Kc D w w') (_ : ∀ k i, Fl L k i → ¬ D k i), Lks w' L
  | [], _, _, _ => trivial
  | x :: L, h, k, hD => ⟨h.1.kc k fun k i ho => hD k i ⟨x, by simp, ho⟩, Lks.kc h.2 k fun k i ⟨y, hy, ho⟩ => hD k i ⟨y, List.mem_cons_of_mem _ hy, ho⟩⟩
theorem Lks.drop : ∀ {L M : List Lk}, Lks w (L ++ M) → Lks w M
  | [], _, h => h
  | _ :: _, _, h => Lks.drop h.2
theorem Lks.pos (h : Lks w L) : ∀ x ∈ L, 0 < x.bs.length := fun x hx => by obtain ⟨nx, h⟩ := h.mem hx; exact h.pos
theorem flat_pos (h : ∀ x ∈ L, 0 < x.bs.length) : L = [] ∨ 0 < (flat L).length := by
  cases L with
  | nil => exact .inl rfl
  | cons x L => right; rw [flat_cons, List.length_append]; have := h x (by simp); omega
theorem ptrO_none {o : Option Nat} : ptrO o = .pointer none ↔ o = none := by cases o <;> simp [ptrO]

/-- A chain: its own block, its chunks, all its blocks from B on. -/
structure Cn (w : World) (B : Nat) (t : TypeId) (c : Nat) (L : List Lk) : Prop where
  blk : Blk w c t #[ptrO (hdO L), ptrO (ltO L), .int .i64 ((flat L).length : Int)]
  ht : t = 27 ∨ t = 29
  lks : Lks w L
  sep : L.Pairwise Apart
  lo : B ≤ c ∧ ∀ x ∈ L, B ≤ x.lb ∧ B ≤ x.g
  le : (flat L).length ≤ 1048576
theorem Cn.lt (h : Cn w B t c L) (hk : Fc c L k i) : k < w.heap.size := by
  rcases hk with rfl | hk
  · exact h.blk.lt
  · exact h.lks.lt hk
theorem Cn.low (h : Cn w B t c L) (hk : Fc c L k i) : B ≤ k := by
  rcases hk with rfl | ⟨x, hx, rfl | ⟨rfl, _⟩⟩
  · exact h.lo.1
  · exact (h.lo.2 x hx).1
  · exact (h.lo.2 x hx).2
theorem blk_ne {g : Nat} {t u : TypeId} {cs ds : Array Value} (h : Blk w c t cs) (k : Blk w g u ds) (hn : t ≠ u) : c ≠ g := fun e => by
  subst e
  unfold Blk at h k
  rw [h] at k
  injection k with k; injection k with _ k; exact hn k
theorem own_ne (h : Blk w c t cs) (ht : t = 27 ∨ t = 29) (hl : Lks w L) (i : Nat) : ¬ Fl L c i := by
  rintro ⟨x, hx, ho⟩
  obtain ⟨nx, hx⟩ := hl.mem hx
  rcases ho with rfl | ⟨rfl, _⟩
  · exact blk_ne h hx.blk (by rcases ht with rfl | rfl <;> decide) rfl
  · obtain ⟨cs, h1, _⟩ := hx.dat
    exact blk_ne h h1 (by rcases ht with rfl | rfl <;> decide) rfl
theorem Cn.kc (h : Cn w B t c L) (k : Kc D w w') (hD : ∀ k i, Fc c L k i → ¬ D k i) : Cn w' B t c L :=
  ⟨h.blk.kc k fun j hj => hD _ j (.inl rfl) hj, h.ht, h.lks.kc k fun k i hf => hD k i (.inr hf), h.sep, h.lo, h.le⟩
theorem Cn.kept (h : Cn w B t c L) (k : Kept (fun _ => False) w w') : Cn w' B t c L := h.kc (D := No2) (Kc.of_kept k) fun _ _ _ e => e
theorem Cn.alloc (h : Cn w B t c L) (o : Obj) : Cn (w.alloc o) B t c L := h.kept ((Kept.refl _ w).alloc o)
theorem Cn.drewN (h : Cn w B t c L) (q : Nat) : Cn (w.drewN q) B t c L := h.kept ((Kept.refl _ w).drewN q)
theorem Cn.same (h : Cn w B t c L) (hh : w'.heap = w.heap) : Cn w' B t c L := by
  have e : ∀ k : Nat, w'.heap[k]? = w.heap[k]? := fun k => by rw [hh]
  have hl : ∀ L : List Lk, Lks w L → Lks w' L := fun L => by
    induction L with
    | nil => exact fun h => h
    | cons x L ih => exact fun h => ⟨⟨h.1.blk.same (e _), h.1.pos, h.1.fit, h.1.big, by obtain ⟨cs, h1, h2⟩ := h.1.dat; exact ⟨cs, h1.same (e _), h2⟩⟩, ih h.2⟩
  exact ⟨h.blk.same (e _), h.ht, hl _ h.lks, h.sep, h.lo, h.le⟩
theorem Cn.more {B' : Nat} (h : Cn w B t c L) (hB : B' ≤ B) : Cn w B' t c L := ⟨h.blk, h.ht, h.lks, h.sep, ⟨Nat.le_trans hB h.lo.1, fun x hx => ⟨Nat.le_trans hB (h.lo.2 x hx).1, Nat.le_trans hB (h.lo.2 x hx).2⟩⟩, h.le⟩
theorem Cn.base (h : Cn w B t c L) : B ≤ w.heap.size := Nat.le_trans h.lo.1 (Nat.le_of_lt h.blk.lt)
theorem Cn.nil (h : Cn w B t c L) : L = [] ↔ (flat L).length = 0 := by
  constructor
  · rintro rfl; rfl
  · intro e; rcases flat_pos h.lks.pos with h | h
    · exact h
    · omega
/-- A step that a chain took: it wrote its own cells alone, and owns what it owned, or new cells. -/
structure Mc (w w' : World) (D D' : Nat → Nat → Prop) : Prop where
  k : Kc D w w'
  o : ∀ k i, D' k i → D k i ∨ w.heap.size ≤ k
theorem Mc.refl (D : Nat → Nat → Prop) (w : World) : Mc w w D D := ⟨Kc.refl _ _, fun _ _ h => .inl h⟩
theorem Mc.trans {a b c : World} {D D' D'' : Nat → Nat → Prop} (h : Mc a b D D') (k : Mc b c D' D'') : Mc a c D D'' :=
  ⟨h.k.andThen k.k fun i j hi hd => by
    rcases h.o i j hd with h2 | h2
    · exact h2
    · omega,
   fun i j hd => by
    rcases k.o i j hd with h2 | h2
    · exact h.o i j h2
    · exact .inr (Nat.le_trans h.k.size h2)⟩
theorem Mc.of_kept (h : Kept (fun _ => False) w w') : Mc w w' D D := ⟨Kc.of_kept h, fun _ _ h => .inl h⟩
/-- Another chain is left as it was, and apart. -/
theorem Cn.apart {D' : Nat → Nat → Prop} (h : Cn w B t c L) (m : Mc w w' D D') (hD : ∀ k i, Fc c L k i → ¬ D k i) : Cn w' B t c L ∧ ∀ k i, Fc c L k i → ¬ D' k i :=
  ⟨h.kc m.k hD, fun k i hf hd => by
    rcases m.o k i hd with h2 | h2
    · exact hD k i hf h2
    · have := h.lt hf; omega⟩
theorem Mc.below {B : Nat} {D' : Nat → Nat → Prop} (m : Mc w w' D D') (hD : ∀ k i, D k i → B ≤ k) (hB : B ≤ w.heap.size) : Below B w w' := m.k.below (fun i j _ h => hD i j h) hB
end
end Go.Proofs.Ytkhkhjkacibocaa
