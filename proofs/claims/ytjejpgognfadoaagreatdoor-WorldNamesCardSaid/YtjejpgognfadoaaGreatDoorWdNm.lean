/-
  A law's world, and what the law holds fast beside it; each call of WorldNames.
-/
import Derived.Test.YtjejpgognfadoaaGreatDoorWdNote
namespace Go.Proofs.YtjejpgognfadoaaGreatDoor
open Go.RowKit Go.Shelf Go.Maps Go.ChangeMaps

/-- A law's world; Z is known of its layout, Q of what stands beside it. -/
def Oq (B : Nat) (W : World) (p : Nat) (S : Ws) (N : Nat) (Z : Lay → Prop) (Q : World → Prop) (w : World) : Prop :=
  ∃ D : Nat → Prop, (∃ L, L.p = p ∧ Wd w B L S ∧ Below B W w ∧ S.le N ∧ (∀ b, D b → Beside w L b) ∧ Z L) ∧ Q w ∧ ∀ u u', Q u → (∀ b, D b → u'.heap[b]? = u.heap[b]?) → u.heap.size ≤ u'.heap.size → Q u'
def All (_ : Lay) : Prop := True
section
variable {B : Nat} {W w w' : World} {p : Nat} {S S' : Ws} {N M : Nat} {Z : Lay → Prop} {Q : World → Prop}
theorem Oq.od (h : Oq B W p S N Z Q w) : ∃ D, Od B W p S N D w ∧ Q w ∧ ∀ u u', Q u → (∀ b, D b → u'.heap[b]? = u.heap[b]?) → u.heap.size ≤ u'.heap.size → Q u' := by
  obtain ⟨D, ⟨L, h1, h2, h3, h4, h5, _⟩, h6, h7⟩ := h
  exact ⟨D, ⟨L, h1, h2, h3, h4, h5⟩, h6, h7⟩
theorem Oq.of {D : Nat → Prop} (h : Od B W p S N D w) (h6 : Q w) (h7 : ∀ u u', Q u → (∀ b, D b → u'.heap[b]? = u.heap[b]?) → u.heap.size ≤ u'.heap.size → Q u') : Oq B W p S N All Q w := by
  obtain ⟨L, h1, h2, h3, h4, h5⟩ := h
  exact ⟨D, ⟨L, h1, h2, h3, h4, h5, trivial⟩, h6, h7⟩
theorem Oq.bel (h : Oq B W p S N Z Q w) : Below B W w := by obtain ⟨D, h, _⟩ := h.od; exact h.bel
theorem Oq.base (h : Oq B W p S N Z Q w) : B ≤ w.heap.size := by obtain ⟨D, h, _⟩ := h.od; exact h.base
theorem Oq.q (h : Oq B W p S N Z Q w) : Q w := by obtain ⟨D, _, h, _⟩ := h; exact h
/-- A call. -/
theorem Oq.go (h : Oq B W p S N Z Q w) {wx : World} {f : FuncId} {args : Array Value} {R : Ending → Prop} (hc : ∀ D, Od B W p S N D w → Calls Tryz.prog f args wx fun e w' => R e ∧ OdM B W p S' M D w w') :
    Calls Tryz.prog f args wx fun e w' => R e ∧ Oq B W p S' M All Q w' := by
  obtain ⟨D, h1, h2, h3⟩ := h.od
  refine (hc D h1).mono ?_
  rintro e w' ⟨hr, ho, hs, hz⟩
  exact ⟨hr, Oq.of ho (h3 _ _ h2 hs hz) h3⟩
/-- The world grew beside it. -/
theorem Oq.grew (h : Oq B W p S N Z Q w) (hb : Below w.heap.size w w') : Oq B W p S N All Q w' := by
  obtain ⟨D, h1, h2, h3⟩ := h.od
  exact Oq.of (h1.below hb) (h3 _ _ h2 (fun b hb' => hb.block b (h1.lt hb')) hb.size) h3
theorem Oq.drewN (h : Oq B W p S N Z Q w) (q : Nat) : Oq B W p S N Z Q (w.drewN q) := by
  obtain ⟨D, ⟨L, h1, h2, h3, h4, h5, h8⟩, h6, h7⟩ := h
  exact ⟨D, ⟨L, h1, h2.drewN q, below_drewN2 h3 q, h4, h5, h8⟩, h7 _ _ h6 (fun _ _ => rfl) (Nat.le_refl _), h7⟩
/-- What was held fast is let go. -/
theorem Oq.rest (h : Oq B W p S N Z Q w) (hN : N ≤ M) : Oq B W p S M All (fun _ => True) w := by
  obtain ⟨D, h1, _, _⟩ := h.od
  exact Oq.of (h1.more hN) trivial (fun _ _ _ _ _ => trivial)
/-- A block laid, that is held fast. -/
theorem Oq.alloc (h : Oq B W p S N Z Q w) (C : Array Value) (t : TypeId) : Oq B W p S N All (fun u => Q u ∧ Blk u w.heap.size t C) (w.alloc (.cells C t)) := by
  obtain ⟨D, h1, h2, h3⟩ := h.od
  refine Oq.of (h1.alloc (.cells C t)) ⟨h3 _ _ h2 (fun b hb => Below.heap_alloc _ _ _ (h1.lt hb)) (by simp), Blk.new w t C⟩ (fun u u' hq he hs => ⟨h3 _ _ hq.1 (fun b hb => he b (.inr hb)) hs, hq.2.same (he _ (.inl rfl))⟩)
theorem Oq.read (h : Oq B W p S N Z Q w) {n : Int} {i : Nat} {k : Bool} {x : Wi} (hf : S.fd n = some (i, k)) (hx : S.ws[i]? = some x) (m : Int) (hm : -9223372036854775808 ≤ m ∧ m ≤ 9223372036854775807) (hN : N ≤ 900000000) {r : List Int × Bool × Int × Wi} (hr : x.read k m = r) :
    Calls Tryz.prog 7 #[.pointer (some ⟨p, 0, none⟩), .int .i64 n, .int .i64 m] w fun e w' => ∃ v, e = .returned (.tuple #[v, .bool r.2.1, .int .i64 r.2.2.1]) ∧ Oq B W p (S.setW i r.2.2.2) (N + 1) All (fun u => Q u ∧ RowB u w.heap.size v r.1) w' := by
  obtain ⟨D, h1, h2, h3⟩ := h.od
  refine (h1.read hf hx m hm hN hr).mono ?_
  rintro e w' ⟨v, rfl, hv, ⟨_, hs, hz⟩, ho⟩
  exact ⟨v, rfl, Oq.of ho ⟨h3 _ _ h2 hs hz, hv⟩ (fun u u' hq he hs => ⟨h3 _ _ hq.1 (fun b hb => he b (.inr hb)) hs, hq.2.same (fun b hb => he b (.inl hb))⟩)⟩
theorem Oq.take (h : Oq B W p S N Z Q w) {n : Int} {x : Wi} (ho : S.outer n = some x) (hcan : (x.e true).can = true) (m : Int) (hm : -9223372036854775808 ≤ m ∧ m ≤ 9223372036854775807) (hN : N ≤ 900000000) {r : List Int × Int × Wi} (hr : x.takeO m = r) :
    Calls Tryz.prog 10 #[.pointer (some ⟨p, 0, none⟩), .int .i64 n, .int .i64 m] w fun e w' => ∃ v, e = .returned (.tuple #[v, .int .i64 r.2.1]) ∧ Oq B W p (S.setW n.toNat r.2.2) (N + 1) All (fun u => Q u ∧ RowB u w.heap.size v r.1) w' := by
  obtain ⟨D, h1, h2, h3⟩ := h.od
  refine (h1.take ho hcan m hm hN hr).mono ?_
  rintro e w' ⟨v, rfl, hv, ⟨_, hs, hz⟩, ho⟩
  exact ⟨v, rfl, Oq.of ho ⟨h3 _ _ h2 hs hz, hv⟩ (fun u u' hq he hs => ⟨h3 _ _ hq.1 (fun b hb => he b (.inr hb)) hs, hq.2.same (fun b hb => he b (.inl hb))⟩)⟩
theorem Oq.new (hB : B ≤ w.heap.size) (hb : Below B W w) : Calls Tryz.prog 4 #[] w fun e w' => ∃ p, e = .returned (.pointer (some ⟨p, 0, none⟩)) ∧ Oq B W p Ws.new 0 All (fun _ => True) w' := by
  refine (Od.new hB hb).mono ?_
  rintro e w' ⟨p, rfl, h⟩
  exact ⟨p, rfl, Oq.of h trivial (fun _ _ _ _ _ => trivial)⟩
/-- After a call. -/
theorem Oq.after {L L' : Lay} {D : Nat → Prop} {Z' : Lay → Prop} (h1 : L.p = p) (h2 : Wd w B L S) (h3 : Below B W w) (h5 : ∀ b, D b → Beside w L b) (h6 : Q w) (h7 : ∀ u u', Q u → (∀ b, D b → u'.heap[b]? = u.heap[b]?) → u.heap.size ≤ u'.heap.size → Q u')
    (k1 : Wd w' B L' S') (k2 : L'.p = L.p) (k3 : Mv w w' L.F L'.F) (h4 : S'.le M) (hz : Z' L') : Oq B W p S' M Z' Q w' :=
  ⟨D, ⟨L', k2.trans h1, k1, h3.trans (h2.belowMv k3), h4, fun b hb => ((h5 b hb).mv k3).1, hz⟩, h7 _ _ h6 (fun b hb => ((h5 b hb).mv k3).2) k3.k.size, h7⟩
theorem Oq.listen (h : Oq B W p S N Z Q w) (n : Nat) (hn : 1 ≤ n) (hm : n ≤ 64) (hw : S.ws.length < 1000) {fd : Nat} (hf : S.frees[0]? = some fd) :
    Calls Tryz.prog 13 #[.pointer (some ⟨p, 0, none⟩), .int .i64 (n : Int)] w fun e w' => e = .returned (.tuple #[.int .i64 (fd : Int), .int .i64 (S.ws.length : Int), .int .i64 0]) ∧
      Oq B W p ((S.addW (lisW n)).opened S.ws.length false fd) N (fun L => L.wt S.ws.length = .slice none 0 0) Q w' := by
  obtain ⟨D, ⟨L, rfl, h2, h3, h4, h5, _⟩, h6, h7⟩ := h
  refine (wListen_ok h2 n hn hm hw (by have := (List.getElem?_eq_some_iff.1 hf).1; omega)).mono ?_
  rintro e w' ⟨fd', hf', rfl, L', k1, k2, k3, k4⟩
  rw [hf] at hf'
  cases hf'
  exact ⟨rfl, Oq.after rfl h2 h3 h5 h6 h7 k1 k2.p k3 (Ws.le_opened (Ws.le_addW h4 (fun _ => ⟨Nat.zero_le _, Nat.zero_le _, Nat.zero_le _⟩)) _ _) k4⟩
theorem Wi.le_more {x : Wi} (h : x.le N) (j : Nat) : (x.more j).le (N + 1) := fun k => by
  have : (x.more j).e k = x.rose.e k := rfl
  rw [this]
  unfold Wi.rose
  rw [Wi.set_e]
  split
  · exact ⟨by have := (h false).1; show (x.e false).inn ≤ _; omega, by have := (h false).2.1; show (x.e false).rd + 1 ≤ _; omega, by have := (h false).2.2; show (x.e false).wr ≤ _; omega⟩
  · exact (h k).mono (by omega)
theorem Oq.connect {i : Nat} (h : Oq B W p S N (fun L => L.wt i = .slice none 0 0) Q w) {x : Wi} (hx : S.ws[i]? = some x) (hw0 : x.wait = []) (hbk : 1 ≤ x.back) (hbm : x.back ≤ 64) (his : (x.e false).is = 1) (n : Nat) (h1 : 1 ≤ n) (h2 : n ≤ 65536) (hl : S.ws.length < 1000) (hN : N ≤ 900000000) :
    Calls Tryz.prog 14 #[.pointer (some ⟨p, 0, none⟩), .int .i64 (i : Int), .int .i64 (n : Int)] w fun e w' =>
      e = .returned (.tuple #[.int .i64 (S.ws.length : Int), .int .i64 0]) ∧ Oq B W p ((S.addW (outW n)).setW i (x.more S.ws.length)) (N + 1) All Q w' := by
  obtain ⟨D, ⟨L, rfl, g2, h3, h4, h5, hv⟩, h6, h7⟩ := h
  refine (wConnect_first g2 hx hv hw0 hbk hbm his n h1 h2 hl ((h4 i x hx).mono hN)).mono ?_
  rintro e w' ⟨rfl, L', k1, k2, k3⟩
  exact ⟨rfl, Oq.after rfl g2 h3 h5 h6 h7 k1 k2 k3 (Ws.le_setW ((Ws.le_addW h4 (Wi.le_mark (Wi.le_new n 2 N) true 2)).mono (Nat.le_succ _)) (Wi.le_more (h4 i x hx) _)) trivial⟩
theorem Oq.connect2 {i : Nat} (h : Oq B W p S N Z Q w) {x : Wi} (hx : S.ws[i]? = some x) (hbk : 1 ≤ x.back) (hbm : x.back ≤ 64) (hwl : x.wait.length = x.back) (his : (x.e false).is = 1) (n : Nat) (h1 : 1 ≤ n) (h2 : n ≤ 65536) :
    Calls Tryz.prog 14 #[.pointer (some ⟨p, 0, none⟩), .int .i64 (i : Int), .int .i64 (n : Int)] w fun e w' =>
      e = .returned (.tuple #[.int .i64 0, .int .i64 113]) ∧ Oq B W p S N Z Q w' := by
  have h0 := h
  obtain ⟨D, ⟨L, rfl, g2, h3, h4, h5, hv⟩, h6, h7⟩ := h
  refine (wConnect_again g2 hx hbk hbm hwl his n h1 h2).mono ?_
  rintro e w' ⟨rfl, q, rfl⟩
  exact ⟨rfl, h0.drewN q⟩
theorem Oq.accept (h : Oq B W p S N Z Q w) {n : Int} {i j : Nat} {k : Bool} {l : List Nat} {x y : Wi} (hf : S.fd n = some (i, k)) (hx : S.ws[i]? = some x) (hw : x.wait = j :: l) (hbk : 1 ≤ x.back) (hbm : x.back ≤ 64) {a : Nat} (ha : S.frees[0]? = some a)
    (hy : (S.setW i (x.left l)).ws[j]? = some y) (hwl : x.wait.length ≤ 1000) :
    Calls Tryz.prog 15 #[.pointer (some ⟨p, 0, none⟩), .int .i64 n] w fun e w' =>
      e = .returned (.tuple #[.int .i64 (a : Int), .int .i64 (j : Int), .int .i64 0]) ∧ Oq B W p ((S.setW i (x.left l)).opened j false a) N All Q w' := by
  obtain ⟨D, ⟨L, rfl, g2, h3, h4, h5, _⟩, h6, h7⟩ := h
  refine (wAccept_any g2 hf hx hw hbk hbm ha hy hwl).mono ?_
  rintro e w' ⟨rfl, L', k1, k2, k3⟩
  exact ⟨rfl, Oq.after rfl g2 h3 h5 h6 h7 k1 k2 k3 (Ws.le_opened (Ws.le_setW h4 (show (x.left l).le N from h4 i x hx)) _ _) trivial⟩
theorem Ws.le_note (h : S.le N) : S.note.le (N + 2) := by
  unfold Ws.note
  split
  · exact h.mono (by omega)
  · split
    · exact h.mono (by omega)
    · rename_i x hx
      split
      · exact Ws.le_setW (h.mono (by omega)) ((Wi.le_drain (h _ x hx) _ _).mono (by omega))
      · split
        · exact Ws.le_setW (h.mono (by omega)) (Wi.le_fill (h _ x hx) _ _)
        · exact h.mono (by omega)
theorem Oq.handle (h : Oq B W p S N Z Q w) (n : Int) (on : Bool) (hN : N ≤ 900000000) (hc : S.ntc) (hs : S.sg.le 900000000) {S' : Ws} (hS : (S.sig (S.sg.handle n on)).note = S') :
    Calls Tryz.prog 18 #[.pointer (some ⟨p, 0, none⟩), .int .i64 n, .bool on] w fun e w' => e = .returned (.int .i64 (code n)) ∧ Oq B W p S' (N + 2) All Q w' := by
  subst hS
  obtain ⟨D, ⟨L, rfl, g2, h3, h4, h5, _⟩, h6, h7⟩ := h
  refine (wHandle_any g2 n on (h4.mono hN) hc hs).mono ?_
  rintro e w' ⟨rfl, L', k1, k2, k3⟩
  exact ⟨rfl, Oq.after rfl g2 h3 h5 h6 h7 k1 k2.p k3 (Ws.le_note (show (S.sig (S.sg.handle n on)).le N from h4)) trivial⟩
theorem Oq.raise (h : Oq B W p S N Z Q w) (n : Int) (hN : N ≤ 900000000) (hc : S.ntc) (hs : S.sg.le 900000000) {S' : Ws} (hS : (S.sig (S.sg.rise n)).note = S') :
    Calls Tryz.prog 19 #[.pointer (some ⟨p, 0, none⟩), .int .i64 n] w fun e w' => e = .returned (.int .i64 (code n)) ∧ Oq B W p S' (N + 2) All Q w' := by
  subst hS
  obtain ⟨D, ⟨L, rfl, g2, h3, h4, h5, _⟩, h6, h7⟩ := h
  refine (wRaise_any g2 n (h4.mono hN) hc hs).mono ?_
  rintro e w' ⟨rfl, L', k1, k2, k3⟩
  exact ⟨rfl, Oq.after rfl g2 h3 h5 h6 h7 k1 k2.p k3 (Ws.le_note (show (S.sig (S.sg.rise n)).le N from h4)) trivial⟩
theorem Oq.notice (h : Oq B W p S N Z Q w) {a b : Int} {i : Nat} {k : Bool} {x : Wi} (ha : S.fd a = some (i, k)) (hb : S.fd b = some (i, !k)) (hx : S.ws[i]? = some x) (hcan : ∀ j, (x.e j).can = true) (hN : N ≤ 900000000) (hs : S.sg.le 900000000) {S' : Ws} (hS : ({ S with nt := some (i, k) } : Ws).note = S') :
    Calls Tryz.prog 17 #[.pointer (some ⟨p, 0, none⟩), .int .i64 a, .int .i64 b] w fun e w' => e = .returned (.int .i64 0) ∧ Oq B W p S' (N + 2) All Q w' := by
  subst hS
  obtain ⟨D, ⟨L, rfl, g2, h3, h4, h5, _⟩, h6, h7⟩ := h
  refine (wNotice_ok g2 ha hb hx hcan (h4.mono hN) hs).mono ?_
  rintro e w' ⟨rfl, L', k1, k2, k3⟩
  exact ⟨rfl, Oq.after rfl g2 h3 h5 h6 h7 k1 k2.p k3 (Ws.le_note (show ({ S with nt := some (i, k) } : Ws).le N from h4)) trivial⟩
theorem Oq.signals (h : Oq B W p S N Z Q w) (hN : N ≤ 900000000) (hc : S.ntc) {S' : Ws} (hS : (S.sig S.sg.idle).note = S') {l : List (Nat × Nat)} (hl : S.sg.pend 32 = l) :
    Calls Tryz.prog 20 #[.pointer (some ⟨p, 0, none⟩)] w fun e w' => ∃ v, e = .returned v ∧ Oq B W p S' (N + 2) All (fun u => Q u ∧ RC.own u w.heap.size v l) w' := by
  subst hS; subst hl
  obtain ⟨D, ⟨L, rfl, g2, h3, h4, h5, _⟩, h6, h7⟩ := h
  refine (wSignals_any g2 (h4.mono hN) hc).mono ?_
  rintro e w' ⟨v, rfl, hr, L', k1, k2, k3, k4⟩
  refine ⟨v, rfl, fun b => v.ownBlock = some b ∨ D b, ⟨L', k2.p, k1, h3.trans (g2.belowMv k3), Ws.le_note (show (S.sig S.sg.idle).le N from h4), fun b hb => ?_, trivial⟩, ⟨h7 _ _ h6 (fun b hb => ((h5 b hb).mv k3).2) k3.k.size, hr⟩, fun u u' hq he hs => ⟨h7 _ _ hq.1 (fun b hb => he b (.inr hb)) hs, RowK.own_same hq.2 (fun b hb => he b (.inl hb))⟩⟩
  rcases hb with hb | hb
  · exact ⟨(RowK.own_lt hr hb).1, k4 b hb⟩
  · exact ((h5 b hb).mv k3).1
end
/-- A pair of a row. -/
theorem rc_at2 {w : World} {B : Nat} {v : Value} {xs : List (Nat × Nat)} (h : RC.own w B v xs) {i : Nat} {x : Nat × Nat} (hx : xs[i]? = some x) :
    ∃ g c, v = .slice (some ⟨g, 0, none⟩) xs.length c ∧ g < w.heap.size ∧ w.cell? ⟨g, i * 2, none⟩ = some (.int .i64 (x.1 : Int)) ∧ w.cell? ⟨g, i * 2 + 1, none⟩ = some (.int .i64 (x.2 : Int)) := by
  rcases RowK.own_form h with ⟨_, rfl⟩ | ⟨g, c, rfl, _, hg, _, hl⟩
  · simp at hx
  · refine ⟨g, c, rfl, hg, ?_, ?_⟩
    · have := hl i x hx 0 (by decide)
      rw [Nat.zero_add] at this
      exact this
    · have := hl i x hx 1 (by decide)
      rw [Nat.zero_add] at this
      exact this

def F1 : Nat → Option (Nat × Bool) := fun f => if f = 0 then some (0, false) else none
def F2 : Nat → Option (Nat × Bool) := fun f => if f = 1 then some (1, false) else F1 f
def F3 : Nat → Option (Nat × Bool) := fun f => if f = 2 then some (2, false) else F2 f
def F4 : Nat → Option (Nat × Bool) := fun f => if f = 3 then some (3, false) else F3 f
def F5 : Nat → Option (Nat × Bool) := fun f => if f = 4 then some (3, true) else F4 f
def frF (f : Nat → Option (Nat × Bool)) : List Nat := (List.range 96).filter fun i => (f i).isSome == false
theorem frees_F (s : Ws) {f : Nat → Option (Nat × Bool)} (h : s.fds = f) : s.frees = frF f := by subst h; rfl
theorem fr1 : (frF F1)[0]? = some 1 := by decide
theorem fr2 : (frF F2)[0]? = some 2 := by decide
theorem fr3 : (frF F3)[0]? = some 3 := by decide
theorem fr3' : (frF F3)[1]? = some 4 := by decide

def q0 : Wi := (outW 4).mark false 1
def q1 : Wi := q0.fill false [100]
def q2 : Wi := q1.drain false 9
def q3 : Wi := q2.stop true
def q4 : Wi := q3.fill true [49, 50, 51, 52, 53]
def q5 : Wi := q4.drain true 2
def q6 : Wi := q5.close true
theorem q1_put : q0.putO [100] = (1, 0, q1) := rfl
theorem q1_read : q1.read false 9 = ([100], false, 0, q2) := rfl
theorem q2_read : q2.read false 9 = ([], false, 113, q2) := rfl
theorem q3_read : q3.read false 9 = ([], true, 0, q3) := rfl
theorem q3_write : q3.write false [49, 50, 51, 52, 53] = (4, 0, q4) := rfl
theorem q4_take : q4.takeO 2 = ([49, 50], 0, q5) := rfl
theorem q5_ready : q5.ready false = ⟨true, true, true, false, false, 2, 1⟩ := rfl
theorem q6_write : q6.write false [49] = (0, 114, q6) := rfl
theorem q6_ready : q6.ready false = ⟨true, true, true, true, false, 2, 2⟩ := rfl
theorem q0_out : (q0.e true).is = 2 := rfl
theorem q2_out : (q2.e true).is = 2 := rfl
theorem q4_out : (q4.e true).is = 2 := rfl
theorem q5_out : (q5.e true).is = 2 := rfl
theorem q0_can : (q0.e false).can = true := rfl
theorem q4_can : (q4.e true).can = true := rfl

def y0 : Wi := (lisW 1).mark false 1
def y1 : Wi := y0.more 2
def y2 : Wi := y1.left []
def z1 : Wi := (outW 9).mark false 1
def v0 : Wi := ((Wi.new 8 2).mark false 1).mark true 1
def v1 : Wi := v0.drain false (v0.e false).bs.length
def v2 : Wi := v1.drain false (v1.e false).bs.length
def v3 : Wi := v2.fill false [1]
def v4 : Wi := v3.drain false (v3.e false).bs.length
def t1 : T := T.new.handle 2 true
def t2 : T := t1.rise 2
def t3 : T := t2.rise 2
theorem t3_pend : t3.pend 32 = [(2, 2)] := by decide
theorem t_le : T.new.le 900000000 ∧ t1.le 900000000 ∧ t2.le 900000000 := by
  have h0 : T.new.le 0 := T.le_new 0
  have h1 : t1.le 0 := T.le_handle h0 2 true
  have h2 : t2.le 1 := T.le_rise h1 2
  exact ⟨h0.mono (by omega), h1.mono (by omega), h2.mono (by omega)⟩
theorem v3_ready : v3.ready false = ⟨true, true, true, false, false, 1, 0⟩ := rfl
theorem v4_ready : v4.ready false = ⟨true, false, true, false, false, 1, 0⟩ := rfl

theorem su0 : T.new.sum = 0 := by decide
theorem su1 : t1.sum = 0 := by decide
theorem su2 : ¬ t2.sum = 0 := by decide
theorem su3 : ¬ t3.sum = 0 := by decide
theorem su4 : t3.idle.sum = 0 := by decide
def Z1 (x : Wi) : Ws := ⟨0, [x], F1, T.new, none⟩
def Z2 (x : Wi) : Ws := ⟨0, [x, y0], F2, T.new, none⟩
def Z3 (x : Wi) : Ws := ⟨0, [x, y1, outW 9], F2, T.new, none⟩
def Z4 (x : Wi) : Ws := ⟨0, [x, y2, z1], F3, T.new, none⟩
def Z5 (x v : Wi) (t : T) (nt : Option (Nat × Bool)) : Ws := ⟨0, [x, y2, z1, v], F5, t, nt⟩
theorem Z1_of : (Ws.new.addW (outW 4)).opened Ws.new.ws.length false 0 = Z1 q0 := rfl
theorem Z1_set (x y : Wi) : (Z1 x).setW 0 y = Z1 y := rfl
theorem Z1_fd (x : Wi) : (Z1 x).fd 0 = some (0, false) := rfl
theorem Z1_get (x : Wi) : (Z1 x).ws[0]? = some x := rfl
theorem Z1_out {x : Wi} (h : (x.e true).is = 2) : (Z1 x).outer 0 = some x := Ws.outer_of (Z1_get x) h
theorem Z2_of (x : Wi) : ((Z1 x).addW (lisW 1)).opened (Z1 x).ws.length false 1 = Z2 x := rfl
theorem Z3_of (x : Wi) : ((Z2 x).addW (outW 9)).setW 1 (y0.more (Z2 x).ws.length) = Z3 x := rfl
theorem Z4_of (x : Wi) : ((Z3 x).setW 1 (y1.left [])).opened 2 false 2 = Z4 x := rfl
theorem Z5_of (x : Wi) : bSt (Z4 x) (Wi.new 8 2) 3 4 2 = Z5 x v0 T.new none := rfl
theorem Z5_notice (x : Wi) : ({ Z5 x v0 T.new none with nt := some (3, false) } : Ws).note = Z5 x v1 T.new (some (3, false)) := (Ws.note_some (i := 3) (k := false) (x := v0) rfl rfl).trans (if_pos su0)
theorem Z5_handle (x : Wi) : ((Z5 x v1 T.new (some (3, false))).sig ((Z5 x v1 T.new (some (3, false))).sg.handle 2 true)).note = Z5 x v2 t1 (some (3, false)) := (Ws.note_some (i := 3) (k := false) (x := v1) rfl rfl).trans (if_pos su1)
theorem Z5_raise (x : Wi) : ((Z5 x v2 t1 (some (3, false))).sig ((Z5 x v2 t1 (some (3, false))).sg.rise 2)).note = Z5 x v3 t2 (some (3, false)) := (Ws.note_some (i := 3) (k := false) (x := v2) rfl rfl).trans ((if_neg su2).trans (if_pos rfl))
theorem Z5_raise2 (x : Wi) : ((Z5 x v3 t2 (some (3, false))).sig ((Z5 x v3 t2 (some (3, false))).sg.rise 2)).note = Z5 x v3 t3 (some (3, false)) := (Ws.note_some (i := 3) (k := false) (x := v3) rfl rfl).trans ((if_neg su3).trans (if_neg (show ¬ (v3.e false).bs.length = 0 by decide)))
theorem Z5_signals (x : Wi) : ((Z5 x v3 t3 (some (3, false))).sig (Z5 x v3 t3 (some (3, false))).sg.idle).note = Z5 x v4 t3.idle (some (3, false)) := (Ws.note_some (i := 3) (k := false) (x := v3) rfl rfl).trans (if_pos su4)
theorem Z5_ntc (x : Wi) {v : Wi} (hv : (v.e false).can = true) (t : T) : (Z5 x v t (some (3, false))).ntc := fun i k y e hy => by
  cases e
  rw [show (Z5 x v t (some (3, false))).ws[3]? = some v from rfl] at hy
  cases hy; exact hv
theorem Z5_ntc0 (x v : Wi) (t : T) : (Z5 x v t none).ntc := fun i k y e _ => by cases e
theorem Z5_fd3 (x v : Wi) (t : T) (nt : Option (Nat × Bool)) : (Z5 x v t nt).fd 3 = some (3, false) := rfl
theorem Z5_fd4 (x v : Wi) (t : T) (nt : Option (Nat × Bool)) : (Z5 x v t nt).fd 4 = some (3, true) := rfl
theorem Z5_get (x v : Wi) (t : T) (nt : Option (Nat × Bool)) : (Z5 x v t nt).ws[3]? = some v := rfl
theorem eq_22 (w : World) : (binOp .eql 45 (.agg #[.int .i64 2, .int .i64 2]) (.agg #[.int .i64 2, .int .i64 2])).run Tryz.prog w = .ok (.bool true) w := by kernel_rfl
theorem eq_rdy0 (w : World) : (binOp .eql 37 (.agg #[.bool false, .bool false, .bool false, .bool false, .bool false, .int .u64 0, .int .u64 0]) (.agg #[.bool false, .bool false, .bool false, .bool false, .bool false, .int .u64 0, .int .u64 0])).run Tryz.prog w = .ok (.bool true) w := by kernel_rfl
theorem field_hup (a b c d e : Bool) (x y : Int) (w : World) : (Instr.field 37 (.agg #[.bool a, .bool b, .bool c, .bool d, .bool e, .int .u64 x, .int .u64 y]) 3).run Tryz.prog w = .ok (.bool d) w := by kernel_rfl
theorem field_in (a b c d e : Bool) (x y : Int) (w : World) : (Instr.field 37 (.agg #[.bool a, .bool b, .bool c, .bool d, .bool e, .int .u64 x, .int .u64 y]) 1).run Tryz.prog w = .ok (.bool b) w := by kernel_rfl
end Go.Proofs.YtjejpgognfadoaaGreatDoor
