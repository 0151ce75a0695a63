/-
  For ChainPlays: both chains, and both of the reference's, beside each other, and what a round has of its own.
-/
import Derived.Test.YtkhkhjkacibocaaChRef2
namespace Go.Proofs.Ytkhkhjkacibocaa
open Go.RowKit Go.Shelf Go.Maps Go.ChangeMaps

/-- The cells that calls write; the same, and blocks of the round's own. -/
def E0 (c : Nat) (L : List Lk) (d : Nat) (M : List Lk) (r s k i : Nat) : Prop := F2 c L d M k i ∨ k = r ∨ k = s
def Ed (c : Nat) (L : List Lk) (d : Nat) (M : List Lk) (r s : Nat) (X : Nat → Prop) (k i : Nat) : Prop := E0 c L d M r s k i ∨ X k
/-- What a round holds fast: where the law began; the chains, the reference's, the call's own copy and its cells, its bytes. -/
structure Kt where
  w0 : World
  c : Nat
  d : Nat
  r : Nat
  s : Nat
  xb : Nat
  cs : Array Value
  bv : Value
  zs : List Int
structure Dd (κ : Kt) (L M : List Lk) (A1 : Option Addr) (p1 : Nat) (xs : List Int) (A2 : Option Addr) (p2 : Nat) (ys : List Int) (X : Nat → Prop) (gv : Value) (gs : List Int) (rv : Value) (rs : List Int) (W : World) : Prop where
  two : Two W κ.w0.heap.size κ.c L κ.d M
  r1 : Rf W (Ed κ.c L κ.d M κ.r κ.s X) κ.r A1 p1 xs
  r2 : Rf W (Ed κ.c L κ.d M κ.r κ.s X) κ.s A2 p2 ys
  nr : ∀ i, ¬ F2 κ.c L κ.d M κ.r i
  ns : ∀ i, ¬ F2 κ.c L κ.d M κ.s i
  ne : κ.s ≠ κ.r
  xa : ∀ k i, X k → ¬ E0 κ.c L κ.d M κ.r κ.s k i
  lo : κ.w0.heap.size ≤ κ.r ∧ κ.w0.heap.size ≤ κ.s ∧ ∀ k, X k → κ.w0.heap.size ≤ k
  bel : Below κ.w0.heap.size κ.w0 W
  xx : X κ.xb
  blk : Blk W κ.xb 36 κ.cs
  bx : ∀ k, κ.bv.ownBlock = some k → X k
  bo : ∃ B, OwB W B κ.bv κ.zs
  gx : ∀ k, gv.ownBlock = some k → X k
  go : ∃ B, OwB W B gv gs
  gb : ∀ k, gv.ownBlock = some k → κ.bv.ownBlock ≠ some k
  ro : ∃ A k cp, rv = .slice A k cp ∧ Src W (Ed κ.c L κ.d M κ.r κ.s X) A k cp rs
  by1 : Byt xs
  by2 : Byt ys
  byz : Byt κ.zs
section
variable {κ : Kt} {L M L' M' : List Lk} {A1 A2 A1' A2' : Option Addr} {p1 p2 p1' p2' : Nat} {xs ys xs' ys' gs rs gs' : List Int} {X : Nat → Prop} {gv rv gv' : Value} {W W' : World}
theorem Rf.go {E E' : Nat → Nat → Prop} {rb cp : Nat} {A : Option Addr} {bs : List Int} (h : Rf W E rb A cp bs) (m : Mc W W' E E') (hb : W'.heap[rb]? = W.heap[rb]?) (hl : ∀ k i, E' k i → k < W'.heap.size) (ho : ∀ i, E' rb i) : Rf W' E' rb A cp bs :=
  ⟨h.blk.same hb, h.src.mc m, hl, ho⟩
theorem Dd.lt (h : Dd κ L M A1 p1 xs A2 p2 ys X gv gs rv rs W) {k : Nat} (hk : X k) : k < W.heap.size := h.r1.lt k 0 (.inr hk)
theorem Dd.xsame (h : Dd κ L M A1 p1 xs A2 p2 ys X gv gs rv rs W) {D' : Nat → Nat → Prop} (m : Mc W W' (E0 κ.c L κ.d M κ.r κ.s) D') {k : Nat} (hk : X k) : W'.heap[k]? = W.heap[k]? := m.k.same (h.lt hk) fun i => h.xa k i hk
/-- A step of a call's. -/
theorem Dd.mv (h : Dd κ L M A1 p1 xs A2 p2 ys X gv gs rv rs W) (m : Mc W W' (E0 κ.c L κ.d M κ.r κ.s) (E0 κ.c L' κ.d M' κ.r κ.s)) (t : Two W' κ.w0.heap.size κ.c L' κ.d M')
    (q1 : Rf W' (Ed κ.c L' κ.d M' κ.r κ.s X) κ.r A1' p1' xs') (q2 : Rf W' (Ed κ.c L' κ.d M' κ.r κ.s X) κ.s A2' p2' ys') (n1 : ∀ i, ¬ F2 κ.c L' κ.d M' κ.r i) (n2 : ∀ i, ¬ F2 κ.c L' κ.d M' κ.s i) (b1 : Byt xs') (b2 : Byt ys') : Dd κ L' M' A1' p1' xs' A2' p2' ys' X gv gs rv rs W' := by
  have mE : Mc W W' (Ed κ.c L κ.d M κ.r κ.s X) (Ed κ.c L' κ.d M' κ.r κ.s X) := ⟨m.k.mono fun _ _ _ e => .inl e, fun k i e => by
    rcases e with e | e
    · rcases m.o k i e with e | e
      · exact .inl (.inl e)
      · exact .inr e
    · exact .inl (.inr e)⟩
  refine ⟨t, q1, q2, n1, n2, h.ne, fun k i hk e => ?_, h.lo, ?_, h.xx, h.blk.same (h.xsame m h.xx), h.bx, ?_, h.gx, ?_, h.gb, ?_, b1, b2, h.byz⟩
  · rcases m.o k i e with e | e
    · exact h.xa k i hk e
    · have := h.lt hk; omega
  · refine h.bel.trans (m.below (fun k i e => ?_) h.two.cc.base)
    rcases e with e | e | e
    · exact F2.low h.two e
    · subst e; exact h.lo.1
    · subst e; exact h.lo.2.1
  · obtain ⟨B, hB⟩ := h.bo
    exact ⟨B, hB.same fun k e => h.xsame m (h.bx k e)⟩
  · obtain ⟨B, hB⟩ := h.go
    exact ⟨B, hB.same fun k e => h.xsame m (h.gx k e)⟩
  · obtain ⟨A, k, cp, e, hs⟩ := h.ro
    exact ⟨A, k, cp, e, hs.mc mE⟩
/-- A step of the chains. -/
theorem Dd.chain (h : Dd κ L M A1 p1 xs A2 p2 ys X gv gs rv rs W) (t : Two W' κ.w0.heap.size κ.c L' κ.d M') (m : Mc W W' (F2 κ.c L κ.d M) (F2 κ.c L' κ.d M')) : Dd κ L' M' A1 p1 xs A2 p2 ys X gv gs rv rs W' := by
  have m0 : Mc W W' (E0 κ.c L κ.d M κ.r κ.s) (E0 κ.c L' κ.d M' κ.r κ.s) := ⟨m.k.mono fun _ _ _ e => .inl e, fun k i e => by
    rcases e with e | e
    · rcases m.o k i e with e | e
      · exact .inl (.inl e)
      · exact .inr e
    · exact .inl (.inr e)⟩
  have mE : Mc W W' (Ed κ.c L κ.d M κ.r κ.s X) (Ed κ.c L' κ.d M' κ.r κ.s X) := ⟨m.k.mono fun _ _ _ e => .inl (.inl e), fun k i e => by
    rcases e with e | e
    · rcases m0.o k i e with e | e
      · exact .inl (.inl e)
      · exact .inr e
    · exact .inl (.inr e)⟩
  have lt : ∀ k i, Ed κ.c L' κ.d M' κ.r κ.s X k i → k < W'.heap.size := fun k i e => by
    rcases e with (e | e | e) | e
    · rcases e with e | e
      · exact t.cc.lt e
      · exact t.dd.lt e
    · subst e; exact Nat.lt_of_lt_of_le h.r1.blk.lt m.k.size
    · subst e; exact Nat.lt_of_lt_of_le h.r2.blk.lt m.k.size
    · exact Nat.lt_of_lt_of_le (h.lt e) m.k.size
  have nn : ∀ q, q < W.heap.size → (∀ i, ¬ F2 κ.c L κ.d M q i) → ∀ i, ¬ F2 κ.c L' κ.d M' q i := fun q hq hn i e => by
    rcases m.o q i e with e | e
    · exact hn i e
    · omega
  exact h.mv m0 t (h.r1.go mE (m.k.same h.r1.blk.lt h.nr) lt fun _ => .inl (.inr (.inl rfl))) (h.r2.go mE (m.k.same h.r2.blk.lt h.ns) lt fun _ => .inl (.inr (.inr rfl))) (nn _ h.r1.blk.lt h.nr) (nn _ h.r2.blk.lt h.ns) h.by1 h.by2
/-- A step of the first chain alone. -/
theorem Dd.one (h : Dd κ L M A1 p1 xs A2 p2 ys X gv gs rv rs W) (hc : Cn W' κ.w0.heap.size 29 κ.c L') (m : Mc W W' (Fc κ.c L) (Fc κ.c L')) : Dd κ L' M A1 p1 xs A2 p2 ys X gv gs rv rs W' := by
  obtain ⟨t, m2⟩ := h.two.step hc m
  exact h.chain t m2
theorem Dd.quiet (h : Dd κ L M A1 p1 xs A2 p2 ys X gv gs rv rs W) (k : Kept (fun _ => False) W W') : Dd κ L M A1 p1 xs A2 p2 ys X gv gs rv rs W' := h.chain (h.two.kept k) (Mc.of_kept k)
/-- A step of the reference's. -/
theorem Dd.refs (h : Dd κ L M A1 p1 xs A2 p2 ys X gv gs rv rs W) (q1 : Rf W' (Ed κ.c L κ.d M κ.r κ.s X) κ.r A1' p1' xs') (q2 : Rf W' (Ed κ.c L κ.d M κ.r κ.s X) κ.s A2' p2' ys') (k : Kc (fun k _ => k = κ.r ∨ k = κ.s) W W') (b1 : Byt xs') (b2 : Byt ys') : Dd κ L M A1' p1' xs' A2' p2' ys' X gv gs rv rs W' := by
  have hd : ∀ j i, F2 κ.c L κ.d M j i → ¬ (j = κ.r ∨ j = κ.s) := fun j i e e2 => by
    rcases e2 with e2 | e2
    · subst e2; exact h.nr i e
    · subst e2; exact h.ns i e
  exact h.mv ⟨k.mono fun _ _ _ e => .inr e, fun _ _ e => .inl e⟩ ⟨h.two.cc.kc k fun j i e => hd j i (.inl e), h.two.dd.kc k fun j i e => hd j i (.inr e), h.two.sep, h.two.ne⟩ q1 q2 h.nr h.ns b1 b2
theorem Dd.ref (h : Dd κ L M A1 p1 xs A2 p2 ys X gv gs rv rs W) (q1 : Rf W' (Ed κ.c L κ.d M κ.r κ.s X) κ.r A1' p1' xs') (k : Kc (fun k _ => k = κ.r) W W') (b1 : Byt xs') : Dd κ L M A1' p1' xs' A2 p2 ys X gv gs rv rs W' :=
  h.refs q1 (h.r2.far k h.r1.own h.ne) (k.mono fun _ _ _ e => .inl e) b1 h.by2
/-- What the reference answered. -/
theorem Dd.tells (h : Dd κ L M A1 p1 xs A2 p2 ys X gv gs rv rs W) {A : Option Addr} {k cp : Nat} {rs' : List Int} (hs : Src W (Ed κ.c L κ.d M κ.r κ.s X) A k cp rs') : Dd κ L M A1 p1 xs A2 p2 ys X gv gs (.slice A k cp) rs' W :=
  ⟨h.two, h.r1, h.r2, h.nr, h.ns, h.ne, h.xa, h.lo, h.bel, h.xx, h.blk, h.bx, h.bo, h.gx, h.go, h.gb, ⟨_, _, _, rfl, hs⟩, h.by1, h.by2, h.byz⟩
theorem Src.more {D D' : Nat → Nat → Prop} {A : Option Addr} {n c : Nat} {zs : List Int} (h : Src W D A n c zs) (hD : ∀ j i b o, A = some ⟨b, o, none⟩ → 0 < n → j = b → D' j i → D j i) : Src W D' A n c zs := ⟨h.len, h.le, h.big, h.nil, h.spot, fun h0 => by
  obtain ⟨b, o, e, hb, hc⟩ := h.at_ h0
  exact ⟨b, o, e, hb, fun i z hz => ⟨fun hd => (hc i z hz).1 (hD _ _ b o e h0 rfl hd), (hc i z hz).2⟩⟩⟩
/-- A row that the chain gave: of blocks that were not there at W. -/
theorem Dd.gets (h : Dd κ L M A1 p1 xs A2 p2 ys X gv gs rv rs W) (h2 : Dd κ L' M' A1 p1 xs A2 p2 ys X gv gs rv rs W') {v : Value} {ps : List Int} (hv : OwB W' W.heap.size v ps) (ha : ∀ k i, F2 κ.c L' κ.d M' k i → v.ownBlock ≠ some k) :
    Dd κ L' M' A1 p1 xs A2 p2 ys (fun k => X k ∨ v.ownBlock = some k) v ps rv rs W' := by
  have hlt : ∀ k, v.ownBlock = some k → k < W'.heap.size ∧ W.heap.size ≤ k := fun k e => hv.lt e
  have hE : ∀ k i, Ed κ.c L' κ.d M' κ.r κ.s (fun k => X k ∨ v.ownBlock = some k) k i → Ed κ.c L' κ.d M' κ.r κ.s X k i ∨ v.ownBlock = some k := fun k i e => by
    rcases e with e | e | e
    · exact .inl (.inl e)
    · exact .inl (.inr e)
    · exact .inr e
  have key : ∀ {A : Option Addr} {n c : Nat} {qs : List Int} {D : Nat → Nat → Prop}, Src W D A n c qs → Src W' (Ed κ.c L' κ.d M' κ.r κ.s X) A n c qs → Src W' (Ed κ.c L' κ.d M' κ.r κ.s (fun k => X k ∨ v.ownBlock = some k)) A n c qs := fun s1 s2 => s2.more fun j i b o e h0 hj hd => by
    subst hj
    rcases hE _ _ hd with e2 | e2
    · exact e2
    · obtain ⟨b', o', e3, hb, _⟩ := s1.at_ h0
      rw [e] at e3; cases e3
      have := (hlt _ e2).2; omega
  have lt : ∀ k i, Ed κ.c L' κ.d M' κ.r κ.s (fun k => X k ∨ v.ownBlock = some k) k i → k < W'.heap.size := fun k i e => by
    rcases hE k i e with e | e
    · exact h2.r1.lt k i e
    · exact (hlt k e).1
  refine ⟨h2.two, ⟨h2.r1.blk, key h.r1.src h2.r1.src, lt, fun _ => .inl (.inr (.inl rfl))⟩, ⟨h2.r2.blk, key h.r2.src h2.r2.src, lt, fun _ => .inl (.inr (.inr rfl))⟩, h2.nr, h2.ns, h2.ne, fun k i hk e => ?_, ⟨h2.lo.1, h2.lo.2.1, fun k hk => ?_⟩, h2.bel, .inl h2.xx, h2.blk, fun k e => .inl (h2.bx k e), h2.bo, fun k e => .inr e, ⟨_, hv⟩, fun k e e2 => ?_, ?_, h2.by1, h2.by2, h2.byz⟩
  · rcases hk with hk | hk
    · exact h2.xa k i hk e
    · rcases e with e | e | e
      · exact ha k i e hk
      · subst e; have := (hlt _ hk).2; have := h.r1.blk.lt; omega
      · subst e; have := (hlt _ hk).2; have := h.r2.blk.lt; omega
  · rcases hk with hk | hk
    · exact h2.lo.2.2 k hk
    · have := (hlt _ hk).2; have := h.bel.size; omega
  · have := (hlt _ e).2; have := h.lt (h.bx k e2); omega
  · obtain ⟨A, k, cp, e, hs⟩ := h.ro
    obtain ⟨A', k', cp', e', hs'⟩ := h2.ro
    rw [e] at e'; cases e'
    exact ⟨A, k, cp, e, key hs hs'⟩
end

/-- What is left when the calls are made: both chains, both of the reference's, and rows of the round's own. -/
structure Dt (w0 : World) (c d r s : Nat) (L M : List Lk) (A1 : Option Addr) (p1 : Nat) (xs : List Int) (A2 : Option Addr) (p2 : Nat) (ys : List Int) (X : Nat → Prop) (gv : Value) (gs : List Int) (bv : Value) (zs : List Int) (W : World) : Prop where
  two : Two W w0.heap.size c L d M
  r1 : Rf W (Ed c L d M r s X) r A1 p1 xs
  r2 : Rf W (Ed c L d M r s X) s A2 p2 ys
  nr : ∀ i, ¬ F2 c L d M r i
  ns : ∀ i, ¬ F2 c L d M s i
  ne : s ≠ r
  xa : ∀ k i, X k → ¬ E0 c L d M r s k i
  lo : w0.heap.size ≤ r ∧ w0.heap.size ≤ s ∧ ∀ k, X k → w0.heap.size ≤ k
  bel : Below w0.heap.size w0 W
  gx : ∀ k, gv.ownBlock = some k → X k
  go : ∃ B, OwB W B gv gs
  bx : ∀ k, bv.ownBlock = some k → X k
  bo : ∃ B, OwB W B bv zs
  gb : ∀ k, gv.ownBlock = some k → bv.ownBlock ≠ some k
  by1 : Byt xs
  by2 : Byt ys
section
variable {w0 : World} {c d r s : Nat} {L M : List Lk} {A1 A2 : Option Addr} {p1 p2 : Nat} {xs ys gs zs : List Int} {X : Nat → Prop} {gv bv : Value} {W W' : World}
theorem Dd.dt {κ : Kt} {rv : Value} {rs : List Int} (h : Dd κ L M A1 p1 xs A2 p2 ys X gv gs rv rs W) : Dt κ.w0 κ.c κ.d κ.r κ.s L M A1 p1 xs A2 p2 ys X gv gs κ.bv κ.zs W :=
  ⟨h.two, h.r1, h.r2, h.nr, h.ns, h.ne, h.xa, h.lo, h.bel, h.gx, h.go, h.bx, h.bo, h.gb, h.by1, h.by2⟩
/-- Writes to the round's own blocks. -/
theorem Dt.write (h : Dt w0 c d r s L M A1 p1 xs A2 p2 ys X gv gs bv zs W) {F : Nat → Prop} (k : Kept F W W') (hF : ∀ j, F j → X j) : Two W' w0.heap.size c L d M ∧ Rf W' (Ed c L d M r s X) r A1 p1 xs ∧ Rf W' (Ed c L d M r s X) s A2 p2 ys ∧ Below w0.heap.size w0 W' := by
  have hn : ∀ j i, E0 c L d M r s j i → W'.heap[j]? = W.heap[j]? := fun j i e => k.block j (h.r1.lt j i (.inl e)) fun e2 => h.xa j i (hF j e2) e
  have hcn : ∀ {t : TypeId} {c : Nat} {N : List Lk}, Cn W w0.heap.size t c N → (∀ j i, Fc c N j i → W'.heap[j]? = W.heap[j]?) → Cn W' w0.heap.size t c N := fun {t c N} hc he => by
    have hl : ∀ P : List Lk, (∀ x ∈ P, x ∈ N) → Lks W P → Lks W' P := fun P => by
      induction P with
      | nil => exact fun _ h => h
      | cons x P ih =>
        intro hP hk
        have hx := hP x (by simp)
        refine ⟨⟨hk.1.blk.same (he _ 0 (.inr ⟨x, hx, .inl rfl⟩)), hk.1.pos, hk.1.fit, hk.1.big, ?_⟩, ih (fun y hy => hP y (List.mem_cons_of_mem _ hy)) hk.2⟩
        obtain ⟨cs, h1, h2⟩ := hk.1.dat
        have := hk.1.pos; have := hk.1.fit
        exact ⟨cs, h1.same (he _ x.off (.inr ⟨x, hx, .inr ⟨rfl, by omega, by omega⟩⟩)), h2⟩
    exact ⟨hc.blk.same (he _ 0 (.inl rfl)), hc.ht, hl N (fun _ h => h) hc.lks, hc.sep, hc.lo, hc.le⟩
  have hsr : ∀ {A : Option Addr} {n cp : Nat} {qs : List Int}, Src W (Ed c L d M r s X) A n cp qs → Src W' (Ed c L d M r s X) A n cp qs := fun S => ⟨S.len, S.le, S.big, S.nil, S.spot, fun h0 => by
    obtain ⟨b, o, e, hb, hc⟩ := S.at_ h0
    refine ⟨b, o, e, Nat.lt_of_lt_of_le hb k.size, fun i z hz => ⟨(hc i z hz).1, ?_⟩⟩
    exact (World.cell?_of_block (a := ⟨b, o + i, none⟩) (k.block b hb fun e2 => (hc i z hz).1 (.inr (hF b e2)))).trans (hc i z hz).2⟩
  refine ⟨⟨hcn h.two.cc fun j i e => hn j i (.inl (.inl e)), hcn h.two.dd fun j i e => hn j i (.inl (.inr e)), h.two.sep, h.two.ne⟩, ⟨h.r1.blk.same (hn _ 0 (.inr (.inl rfl))), hsr h.r1.src, fun j i e => Nat.lt_of_lt_of_le (h.r1.lt j i e) k.size, h.r1.own⟩, ⟨h.r2.blk.same (hn _ 0 (.inr (.inr rfl))), hsr h.r2.src, fun j i e => Nat.lt_of_lt_of_le (h.r2.lt j i e) k.size, h.r2.own⟩, h.bel.trans (k.below (fun j e => h.lo.2.2 j (hF j e)) h.two.cc.base)⟩
theorem encB_set (zs : List Int) (i : Nat) (u : Int) : (encB zs).set i (.int .u8 u) = encB (zs.set i u) := by unfold encB; rw [List.map_set]
theorem OwB.set {B g n cp : Nat} {qs : List Int} (h : OwB W B (.slice (some ⟨g, 0, none⟩) n cp) qs) (i : Nat) (u : Int) : OwB (W.setCell ⟨g, i, none⟩ (.int .u8 u)) B (.slice (some ⟨g, 0, none⟩) n cp) (qs.set i u) := by
  obtain rfl : n = qs.length := by
    rcases h.2 with ⟨e, _⟩ | ⟨g', cap, cur, e, _⟩
    · cases e
    · injection e
  unfold OwB
  rw [List.length_set, ← encB_set]
  exact row_set h i (.int .u8 u)
theorem Dt.wr_g {g n cp : Nat} (h : Dt w0 c d r s L M A1 p1 xs A2 p2 ys X (.slice (some ⟨g, 0, none⟩) n cp) gs bv zs W) (i : Nat) (u : Int) : Dt w0 c d r s L M A1 p1 xs A2 p2 ys X (.slice (some ⟨g, 0, none⟩) n cp) (gs.set i u) bv zs (W.setCell ⟨g, i, none⟩ (.int .u8 u)) := by
  have hg : X g := h.gx g rfl
  have hk : Kept (fun j => j = g) W (W.setCell ⟨g, i, none⟩ (.int .u8 u)) := (Kept.refl (fun j => j = g) W).setCell (p := ⟨g, i, none⟩) rfl _
  obtain ⟨t, q1, q2, b⟩ := h.write hk (fun j e => e ▸ hg)
  obtain ⟨B, hB⟩ := h.go
  obtain ⟨B2, hB2⟩ := h.bo
  exact ⟨t, q1, q2, h.nr, h.ns, h.ne, h.xa, h.lo, b, h.gx, ⟨B, hB.set i u⟩, h.bx, ⟨B2, hB2.same fun k e => hk.block k (hB2.lt e).1 fun e2 => h.gb g rfl (e2 ▸ e)⟩, h.gb, h.by1, h.by2⟩
theorem Dt.wr_b {g n cp : Nat} (h : Dt w0 c d r s L M A1 p1 xs A2 p2 ys X gv gs (.slice (some ⟨g, 0, none⟩) n cp) zs W) (i : Nat) (u : Int) : Dt w0 c d r s L M A1 p1 xs A2 p2 ys X gv gs (.slice (some ⟨g, 0, none⟩) n cp) (zs.set i u) (W.setCell ⟨g, i, none⟩ (.int .u8 u)) := by
  have hg : X g := h.bx g rfl
  have hk : Kept (fun j => j = g) W (W.setCell ⟨g, i, none⟩ (.int .u8 u)) := (Kept.refl (fun j => j = g) W).setCell (p := ⟨g, i, none⟩) rfl _
  obtain ⟨t, q1, q2, b⟩ := h.write hk (fun j e => e ▸ hg)
  obtain ⟨B, hB⟩ := h.go
  obtain ⟨B2, hB2⟩ := h.bo
  exact ⟨t, q1, q2, h.nr, h.ns, h.ne, h.xa, h.lo, b, h.gx, ⟨B, hB.same fun k e => hk.block k (hB.lt e).1 fun e2 => h.gb k e (e2 ▸ rfl)⟩, h.bx, ⟨B2, hB2.set i u⟩, h.gb, h.by1, h.by2⟩
end
end Go.Proofs.Ytkhkhjkacibocaa
