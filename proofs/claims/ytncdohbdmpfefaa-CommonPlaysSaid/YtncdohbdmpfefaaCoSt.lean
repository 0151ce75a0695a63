/-
  What a law keeps: two things that are turned, apart from each other, and what it has laid besides.
-/
import Derived.Test.YtncdohbdmpfefaaCoDue
namespace Go.Proofs.Ytncdohbdmpfefaa
open Go.RowKit Go.Maps Go.ChangeMaps

/-- What a law has laid: a block, a slice of items. -/
inductive Fb where
  | blk (g : Nat) (t : TypeId) (cs : Array Value)
  | row (v : Value) (P : List It)
def Fb.holds (W : World) : Fb → Prop
  | .blk g t cs => Blk W g t cs
  | .row v P => OwnI W 0 v P
def Fb.uses : Fb → Nat → Prop
  | .blk g _ _, k => k = g
  | .row v _, k => v.ownBlock = some k
theorem Fb.lt {W : World} {f : Fb} (h : f.holds W) {k : Nat} (hk : f.uses k) : k < W.heap.size := by
  cases f with
  | blk g t cs => have e : k = g := hk; subst e; exact Blk.lt h
  | row v P => exact (own_lt3 h hk).1
theorem Fb.same {W W' : World} {f : Fb} (h : f.holds W) (e : ∀ k, f.uses k → W'.heap[k]? = W.heap[k]?) : f.holds W' := by
  cases f with
  | blk g t cs => exact Blk.same h (e g rfl)
  | row v P => exact own_same h e

/-- A thing of which nothing turns while its blocks don't. -/
def Stable (Q : World → (Nat → Prop) → Prop) : Prop := ∀ W W' O, Q W O → (∀ i, O i → W'.heap[i]? = W.heap[i]?) → W.heap.size ≤ W'.heap.size → Q W' O
def SetQ (B s : Nat) (L : List En) (T : List Int) (nx : Int) (W : World) (O : Nat → Prop) : Prop := Cm W B s O L T nx
def NoQ (_ : World) (O : Nat → Prop) : Prop := ∀ i, ¬ O i
theorem setQ_stable (B s : Nat) (L : List En) (T : List Int) (nx : Int) : Stable (SetQ B s L T nx) := fun _ _ _ h e hs => Cm.same h e (Nat.le_trans (Cm.base h) hs)
theorem noQ_stable : Stable NoQ := fun _ _ _ h _ _ => h

/-- All but what the first thing is. -/
def StR (Q2 : World → (Nat → Prop) → Prop) (w W : World) (X : List Fb) (O1 O2 : Nat → Prop) : Prop :=
  Q2 W O2 ∧ (∀ i, O1 i → ¬ O2 i) ∧ (∀ i, O1 i ∨ O2 i → w.heap.size ≤ i ∧ i < W.heap.size) ∧ Below w.heap.size w W ∧ ∀ f ∈ X, f.holds W ∧ ∀ k, f.uses k → ¬ O1 k ∧ ¬ O2 k ∧ w.heap.size ≤ k
def St (Q1 Q2 : World → (Nat → Prop) → Prop) (w W : World) (X : List Fb) : Prop := ∃ O1 O2, Q1 W O1 ∧ StR Q2 w W X O1 O2

section
variable {Q1 Q1' Q2 Q2' : World → (Nat → Prop) → Prop} {w W W' : World} {X Y : List Fb}
theorem St.bel (H : St Q1 Q2 w W X) : Below w.heap.size w W := by obtain ⟨O1, O2, h1, h2, h3, h4, h5, h6⟩ := H; exact h5
theorem St.swap (H : St Q1 Q2 w W X) : St Q2 Q1 w W X := by
  obtain ⟨O1, O2, h1, h2, h3, h4, h5, h6⟩ := H
  exact ⟨O2, O1, h2, h1, fun i a b => h3 i b a, fun i e => h4 i e.symm, h5, fun f hf => ⟨(h6 f hf).1, fun k hk => ⟨((h6 f hf).2 k hk).2.1, ((h6 f hf).2 k hk).1, ((h6 f hf).2 k hk).2.2⟩⟩⟩
theorem St.less (H : St Q1 Q2 w W X) (h : ∀ f ∈ Y, f ∈ X) : St Q1 Q2 w W Y := by
  obtain ⟨O1, O2, h1, h2, h3, h4, h5, h6⟩ := H
  exact ⟨O1, O2, h1, h2, h3, h4, h5, fun f hf => h6 f (h f hf)⟩
/-- The first thing turned. -/
theorem StR.turn {O1 O2 O1' : Nat → Prop} (H : StR Q2 w W X O1 O2) (hQ2 : Stable Q2) (q1 : Q1' W' O1') (m1 : Mv W W' O1 O1') (lt1 : ∀ i, O1' i → i < W'.heap.size) : St Q1' Q2 w W' X := by
  obtain ⟨h2, h3, h4, h5, h6⟩ := H
  have hz := m1.k.size
  refine ⟨O1', O2, q1, hQ2 _ _ _ h2 (fun i e => m1.k.block i (h4 i (.inr e)).2 (fun e1 => h3 i e1 e)) hz, fun i a b => ?_, fun i e => ?_, ?_, fun f hf => ⟨Fb.same (h6 f hf).1 fun k hk => m1.k.block k (Fb.lt (h6 f hf).1 hk) ((h6 f hf).2 k hk).1, fun k hk => ⟨fun e => ?_, ((h6 f hf).2 k hk).2⟩⟩⟩
  · rcases m1.o i a with a | a
    · exact h3 i a b
    · have := (h4 i (.inr b)).2; omega
  · rcases e with e | e
    · refine ⟨?_, lt1 i e⟩
      rcases m1.o i e with e | e
      · exact (h4 i (.inl e)).1
      · have := h5.size; omega
    · exact ⟨(h4 i (.inr e)).1, Nat.lt_of_lt_of_le (h4 i (.inr e)).2 hz⟩
  · exact h5.trans (m1.below (fun k e => (h4 k (.inl e)).1) h5.size)
  · rcases m1.o k e with e | e
    · exact ((h6 f hf).2 k hk).1 e
    · have := Fb.lt (h6 f hf).1 hk; omega
/-- Nothing turned. -/
theorem St.quiet (H : St Q1 Q2 w W X) (hQ1 : Stable Q1) (hQ2 : Stable Q2) (hb : Below W.heap.size W W') : St Q1 Q2 w W' X := by
  obtain ⟨O1, O2, h1, h2, h3, h4, h5, h6⟩ := H
  exact ⟨O1, O2, hQ1 _ _ _ h1 (fun i e => hb.block i (h4 i (.inl e)).2) hb.size, hQ2 _ _ _ h2 (fun i e => hb.block i (h4 i (.inr e)).2) hb.size, h3, fun i e => ⟨(h4 i e).1, Nat.lt_of_lt_of_le (h4 i e).2 hb.size⟩, h5.trans (hb.mono h5.size), fun f hf => ⟨Fb.same (h6 f hf).1 fun k hk => hb.block k (Fb.lt (h6 f hf).1 hk), (h6 f hf).2⟩⟩
theorem St.drewN (H : St Q1 Q2 w W X) (hQ1 : Stable Q1) (hQ2 : Stable Q2) (n : Nat) : St Q1 Q2 w (W.drewN n) X := H.quiet hQ1 hQ2 (((Kept.refl (fun _ => False) W).drewN n).below (fun _ e => e.elim) (Nat.le_refl _))
theorem St.drew (H : St Q1 Q2 w W X) (hQ1 : Stable Q1) (hQ2 : Stable Q2) : St Q1 Q2 w W.drew X := H.quiet hQ1 hQ2 (((Kept.refl (fun _ => False) W).drew).below (fun _ e => e.elim) (Nat.le_refl _))
/-- What is new is besides all. -/
theorem St.plus (H : St Q1 Q2 w W X) (hQ1 : Stable Q1) (hQ2 : Stable Q2) (hb : Below W.heap.size W W') (f : Fb) (hf : f.holds W') (hn : ∀ k, f.uses k → W.heap.size ≤ k) : St Q1 Q2 w W' (f :: X) := by
  obtain ⟨O1, O2, h1, h2, h3, h4, h5, h6⟩ := H
  have H' : St Q1 Q2 w W' X := St.quiet ⟨O1, O2, h1, h2, h3, h4, h5, h6⟩ hQ1 hQ2 hb
  refine ⟨O1, O2, hQ1 _ _ _ h1 (fun i e => hb.block i (h4 i (.inl e)).2) hb.size, hQ2 _ _ _ h2 (fun i e => hb.block i (h4 i (.inr e)).2) hb.size, h3, fun i e => ⟨(h4 i e).1, Nat.lt_of_lt_of_le (h4 i e).2 hb.size⟩, H'.bel, fun g hg => ?_⟩
  rcases List.mem_cons.1 hg with rfl | hg
  · refine ⟨hf, fun k hk => ?_⟩
    have := hn k hk
    refine ⟨fun e => ?_, fun e => ?_, ?_⟩
    · have := (h4 k (.inl e)).2; omega
    · have := (h4 k (.inr e)).2; omega
    · have := h5.size; omega
  · exact ⟨Fb.same (h6 g hg).1 fun k hk => hb.block k (Fb.lt (h6 g hg).1 hk), (h6 g hg).2⟩
theorem St.box (H : St Q1 Q2 w W X) (hQ1 : Stable Q1) (hQ2 : Stable Q2) (cs : Array Value) (t : TypeId) : St Q1 Q2 w (W.alloc (.cells cs t)) (.blk W.heap.size t cs :: X) :=
  H.plus hQ1 hQ2 (((Kept.refl (fun _ => False) W).alloc _).below (fun _ e => e.elim) (Nat.le_refl _)) (.blk W.heap.size t cs) (Blk.new _ _ _) (fun k e => Nat.le_of_eq e.symm)
theorem St.fact (H : St Q1 Q2 w W X) {f : Fb} (hf : f ∈ X) : f.holds W := by obtain ⟨O1, O2, h1, h2, h3, h4, h5, h6⟩ := H; exact (h6 f hf).1
/-- A slice of items that the first thing's call has laid while it turned. -/
theorem StR.turnRow {O1 O2 O1' : Nat → Prop} (H : StR Q2 w W X O1 O2) (hQ2 : Stable Q2) {v : Value} {P : List It} (hv : OwnI W' W.heap.size v P) (q1 : Q1' W' O1') (m1 : Mv W W' O1 O1') (lt1 : ∀ i, O1' i → i < W'.heap.size) (va : ∀ i, v.ownBlock = some i → ¬ O1' i) : St Q1' Q2 w W' (.row v P :: X) := by
  obtain ⟨h2, h3, h4, h5, h6⟩ := H
  have hz := m1.k.size
  refine ⟨O1', O2, q1, hQ2 _ _ _ h2 (fun i e => m1.k.block i (h4 i (.inr e)).2 (fun e1 => h3 i e1 e)) hz, fun i a b => ?_, fun i e => ?_, ?_, fun f hf => ?_⟩
  · rcases m1.o i a with a | a
    · exact h3 i a b
    · have := (h4 i (.inr b)).2; omega
  · rcases e with e | e
    · refine ⟨?_, lt1 i e⟩
      rcases m1.o i e with e | e
      · exact (h4 i (.inl e)).1
      · have := h5.size; omega
    · exact ⟨(h4 i (.inr e)).1, Nat.lt_of_lt_of_le (h4 i (.inr e)).2 hz⟩
  · exact h5.trans (m1.below (fun k e => (h4 k (.inl e)).1) h5.size)
  · rcases List.mem_cons.1 hf with rfl | hf
    · refine ⟨OwnI.more hv (Nat.zero_le _), fun k hk => ⟨va k hk, fun e => ?_, ?_⟩⟩
      · have := (own_lt3 hv hk).2.1
        have := (h4 k (.inr e)).2; omega
      · have := (own_lt3 hv hk).2.1
        have := h5.size; omega
    · refine ⟨Fb.same (h6 f hf).1 fun k hk => m1.k.block k (Fb.lt (h6 f hf).1 hk) ((h6 f hf).2 k hk).1, fun k hk => ⟨fun e => ?_, ((h6 f hf).2 k hk).2⟩⟩
      rcases m1.o k e with e | e
      · exact ((h6 f hf).2 k hk).1 e
      · have := Fb.lt (h6 f hf).1 hk; omega
end

/-- What is read of a slice of items. -/
def RAt (W : World) (g : Nat) (P : List It) : Prop := ∀ i x, P[i]? = some x → W.cell? ⟨g, i * 3, none⟩ = some (.int .i64 x.id) ∧ W.cell? ⟨g, i * 3 + 1, none⟩ = some (.int .u64 x.d) ∧ W.cell? ⟨g, i * 3 + 2, none⟩ = some (.int .u64 x.n)
def Rd (W : World) (A : Option Addr) (P : List It) : Prop := 0 < P.length → ∃ g, A = some ⟨g, 0, none⟩ ∧ g < W.heap.size ∧ RAt W g P
theorem OwnI.read {W : World} {B : Nat} {v : Value} {P : List It} (h : OwnI W B v P) : ∃ A c, v = .slice A P.length c ∧ Rd W A P ∧ P.length ≤ c := by
  rcases RowK.own_form (R := rowI) h with ⟨rfl, rfl⟩ | ⟨g, c, rfl, hc, hg, _, hl⟩
  · exact ⟨none, 0, rfl, fun h => by simp at h, Nat.le_refl _⟩
  · refine ⟨_, c, rfl, fun _ => ⟨g, rfl, hg, fun i x hx => ?_⟩, hc⟩
    have h0 := hl i x hx 0 (by decide)
    have h1 := hl i x hx 1 (by decide)
    have h2 := hl i x hx 2 (by decide)
    have e0 : 0 + (i * rowI.n + 0) = i * 3 := by show 0 + (i * 3 + 0) = i * 3; omega
    have e1 : 0 + (i * rowI.n + 1) = i * 3 + 1 := by show 0 + (i * 3 + 1) = i * 3 + 1; omega
    have e2 : 0 + (i * rowI.n + 2) = i * 3 + 2 := by show 0 + (i * 3 + 2) = i * 3 + 2; omega
    rw [e0] at h0; rw [e1] at h1; rw [e2] at h2
    exact ⟨h0, h1, h2⟩
theorem OwnI.rd {W : World} {B n c : Nat} {A : Option Addr} {P : List It} (h : OwnI W B (.slice A n c) P) : Rd W A P := by
  obtain ⟨A', c', e, hr, _⟩ := h.read
  injection e with e1
  subst e1; exact hr

set_option maxHeartbeats 2000000 in
set_option maxRecDepth 100000 in
theorem same_yes (w : World) (A1 A2 : Option Addr) (c1 c2 : Nat) (P : List It) (hlen : P.length ≤ 100000) (h1 : Rd w A1 P) (h2 : Rd w A2 P) :
    Calls Try.prog 15 #[.slice A1 P.length c1, .slice A2 P.length c2] w fun e w' => e = .returned (.bool true) ∧ ∃ j, w' = w.drewN j := by
  have HR := Lib.hid (And.intro h1 h2)
  clear h1 h2
  go_enter Try.func15, Try.ntmps15
  go_wp2_with fail
  go_loopw [5] (fun i wr => ∃ k : Nat, i = .int .i64 (k : Int) ∧ k ≤ P.length ∧ ∃ j, wr = w.drewN j) (fun i _ => P.length - (intOf i).toNat)
  case atStart => exact ⟨0, rfl, Nat.zero_le _, 0, rfl⟩
  case round =>
    obtain ⟨k, rfl, hk, j, rfl⟩ := hrel
    by_cases hlt : k < P.length
    · obtain ⟨g1, rfl, _, r1⟩ := HR.out.1 (by omega)
      obtain ⟨g2, rfl, _, r2⟩ := HR.out.2 (by omega)
      obtain ⟨y, hy⟩ : ∃ y, P[k]? = some y := ⟨_, List.getElem?_eq_getElem hlt⟩
      obtain ⟨p0, p1, p2⟩ := r1 k y hy
      obtain ⟨q0, q1, q2⟩ := r2 k y hy
      have b0 : (0 : Int) ≤ (k : Int) := by omega
      have b1 : (k : Int) < (P.length : Int) := by omega
      clear r1 r2 hy
      go_wp2_with fail
      go_quiet (fail)
      go_wp2_with fail
      go_roundw
      case rel => exact ⟨k + 1, by go_num, by omega, _, rfl⟩
      case measure => simp [intOf]; omega
    · obtain rfl : k = P.length := by omega
      go_wp2_with fail
      go_ret
      exact ⟨rfl, j, rfl⟩

/-! The set's calls, of the first thing. -/
section
variable {Q2 : World → (Nat → Prop) → Prop} {w W : World} {s : Nat} {L : List En} {T : List Int} {nx : Int} {X : List Fb}
theorem St.set_inv (H : St (SetQ w.heap.size s L T nx) Q2 w W X) : CInv L T nx := by obtain ⟨O1, O2, h1, _⟩ := H; exact Cm.inv h1
theorem StR.bel {O1 O2 : Nat → Prop} (H : StR Q2 w W X O1 O2) : Below w.heap.size w W := by obtain ⟨h2, h3, h4, h5, h6⟩ := H; exact h5
theorem st_new (hQ2 : Stable Q2) (H : St NoQ Q2 w W X) : Calls Try.prog 9 #[] W fun e W' => ∃ s, e = .returned (.pointer (some ⟨s, 0, none⟩)) ∧ St (SetQ w.heap.size s [] [] 0) Q2 w W' X := by
  obtain ⟨O1, O2, h1, r⟩ := H
  refine (cnew_any W).mono ?_
  rintro e W' ⟨s, O, rfl, hc, hb⟩
  exact ⟨s, rfl, r.turn hQ2 (hc.more r.bel.size) ⟨Kept.of_below hb, fun i e => .inr (hc.lt e).2⟩ (fun i e => (hc.lt e).1)⟩
theorem st_cut (hQ2 : Stable Q2) (H : St (SetQ w.heap.size s L T nx) Q2 w W X) {j : Int} (hj : -9223372036854775808 ≤ j ∧ j ≤ 9223372036854775807) : Calls Try.prog 12 #[.pointer (some ⟨s, 0, none⟩), .int .i64 j] W fun e W' => e = .returned (.bool (hasI L j)) ∧ St (SetQ w.heap.size s (cutL j L) T nx) Q2 w W' X := by
  obtain ⟨O1, O2, h1, r⟩ := H
  refine (ccut_any h1 hj).mono ?_
  rintro e W' ⟨rfl, O, hc, hm⟩
  exact ⟨rfl, r.turn hQ2 hc hm (fun i e => (hc.lt e).1)⟩
theorem st_add (hQ2 : Stable Q2) (H : St (SetQ w.heap.size s L T nx) Q2 w W X) {id now after : Int} (hid : -9223372036854775808 ≤ id ∧ id ≤ 9223372036854775807) (hnow : U now) (haf : U after) (h1 : nx < 1000000) (hl : L.length < 500) :
    Calls Try.prog 10 #[.pointer (some ⟨s, 0, none⟩), .int .i64 id, .int .u64 now, .int .u64 after] W fun e W' => e = .returned (.int .i64 (addE id)) ∧ St (SetQ w.heap.size s (addT L T nx id now after) T (addN nx id)) Q2 w W' X := by
  obtain ⟨O1, O2, q1, r⟩ := H
  refine (cadd_any q1 hid hnow haf h1 hl).mono ?_
  rintro e W' ⟨rfl, O, hc, hm⟩
  exact ⟨rfl, r.turn hQ2 hc hm (fun i e => (hc.lt e).1)⟩
theorem st_due (hQ2 : Stable Q2) (H : St (SetQ w.heap.size s L T nx) Q2 w W X) {now : Int} (hnow : U now) :
    Calls Try.prog 14 #[.pointer (some ⟨s, 0, none⟩), .int .u64 now] W fun e W' => ∃ A c, e = .returned (.slice A (dueD now (xs L)).length c) ∧ St (SetQ w.heap.size s (cutAll (dueD now (xs L)) L) T nx) Q2 w W' (.row (.slice A (dueD now (xs L)).length c) (dueD now (xs L)) :: X) := by
  obtain ⟨O1, O2, q1, r⟩ := H
  refine (cdue_any q1 hnow).mono ?_
  rintro e W' ⟨v, O, rfl, hv, hc, ha, hm⟩
  obtain ⟨A, c, rfl, -, -⟩ := hv.read
  exact ⟨A, c, rfl, r.turnRow hQ2 hv hc hm (fun i e => (hc.lt e).1) ha⟩
theorem st_top (hQ2 : Stable Q2) (H : St (SetQ w.heap.size s L T nx) Q2 w W X) : Calls Try.prog 21 #[.pointer (some ⟨s, 0, none⟩)] W fun e W' => e = .returned (.tuple #[aggI (topI (ord (xs L))).1, .bool (topI (ord (xs L))).2]) ∧ St (SetQ w.heap.size s L T nx) Q2 w W' X := by
  obtain ⟨O1, O2, q1, r⟩ := id H
  refine (ctop_any q1).mono ?_
  rintro e W' ⟨rfl, hb⟩
  exact ⟨rfl, H.quiet (setQ_stable _ _ _ _ _) hQ2 hb⟩
theorem st_find (hQ2 : Stable Q2) (H : St (SetQ w.heap.size s L T nx) Q2 w W X) {j : Int} (hj : -9223372036854775808 ≤ j ∧ j ≤ 9223372036854775807) : Calls Try.prog 20 #[.pointer (some ⟨s, 0, none⟩), .int .i64 j] W fun e W' => e = .returned (.tuple #[aggI (getI L j), .bool (hasI L j)]) ∧ St (SetQ w.heap.size s L T nx) Q2 w W' X := by
  obtain ⟨O1, O2, q1, r⟩ := id H
  refine (cfind_any q1 hj).mono ?_
  rintro e W' ⟨rfl, hb⟩
  exact ⟨rfl, H.quiet (setQ_stable _ _ _ _ _) hQ2 hb⟩
theorem st_len (H : St (SetQ w.heap.size s L T nx) Q2 w W X) : Calls Try.prog 22 #[.pointer (some ⟨s, 0, none⟩)] W fun e W' => e = .returned (.int .i64 (L.length : Int)) ∧ W = W' := by
  obtain ⟨O1, O2, q1, r⟩ := id H
  exact clen_any q1
theorem st_heap (H : St (SetQ w.heap.size s L T nx) Q2 w W X) : Calls Try.prog 24 #[.pointer (some ⟨s, 0, none⟩)] W fun e W' => e = .returned (.int .i64 ((heads L T).length : Int)) ∧ W = W' := by
  obtain ⟨O1, O2, q1, r⟩ := id H
  exact cheap_any q1
theorem st_all (hQ2 : Stable Q2) (H : St (SetQ w.heap.size s L T nx) Q2 w W X) : Calls Try.prog 23 #[.pointer (some ⟨s, 0, none⟩)] W fun e W' => ∃ A c, e = .returned (.slice A (ord (xs L)).length c) ∧ St (SetQ w.heap.size s L T nx) Q2 w W' (.row (.slice A (ord (xs L)).length c) (ord (xs L)) :: X) := by
  obtain ⟨O1, O2, q1, r⟩ := id H
  refine (call_any q1).mono ?_
  rintro e W' ⟨v, rfl, hv, hb⟩
  obtain ⟨A, c, rfl, -, -⟩ := hv.read
  exact ⟨A, c, rfl, H.plus (setQ_stable _ _ _ _ _) hQ2 hb (.row _ _) (OwnI.more hv (Nat.zero_le _)) (fun k hk => (own_lt3 hv hk).2.1)⟩
end
end Go.Proofs.Ytncdohbdmpfefaa
