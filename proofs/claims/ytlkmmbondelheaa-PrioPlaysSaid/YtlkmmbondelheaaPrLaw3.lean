/-
  A law's queues beside what the law found: each call once more; a move, what it leaves.
-/
import Derived.Test.YtlkmmbondelheaaPrLaw2
namespace Go.Proofs.Ytlkmmbondelheaa
open Go.RowKit Go.Maps Go.ChangeMaps Go.Shelf

/-- What else a law holds: a block, or a row of items, none of the queues' own. -/
inductive Fb where
  | blk (g : Nat) (t : TypeId) (cs : Array Value)
  | row (v : Value) (P : List It)
def Fb.ok (W : World) (Own : Nat → Prop) : Fb → Prop
  | .blk g t cs => Blk W g t cs ∧ ¬ Own g
  | .row v P => ∃ B, OwnI W B v P ∧ ∀ k, v.ownBlock = some k → ¬ Own k
theorem Fb.ok.below {W W' : World} {Own : Nat → Prop} : ∀ {f : Fb}, f.ok W Own → Below W.heap.size W W' → f.ok W' Own
  | .blk _ _ _, h, b => ⟨h.1.same (b.block _ h.1.lt), h.2⟩
  | .row _ _, ⟨B, h1, h2⟩, b => ⟨B, h1.below b, h2⟩
theorem Fb.ok.mv {W W' : World} {Own Own' : Nat → Prop} : ∀ {f : Fb}, f.ok W Own → Mv W W' Own Own' → f.ok W' Own'
  | .blk _ _ _, h, m => ⟨h.1.kept m.k h.2, fun e => by rcases m.o _ e with e | e; exact h.2 e; have := h.1.lt; omega⟩
  | .row _ _, ⟨B, h1, h2⟩, m => ⟨B, (h1.mv h2 m).1, (h1.mv h2 m).2⟩
/-- The law's queues, what it holds besides, and nothing that was there ahead of the law has turned. -/
def PS (w W : World) (h many : Nat) (L : List It) (X : List Fb := []) : Prop := ∃ B Own, Qu W B h Own many L ∧ Below w.heap.size w W ∧ w.heap.size ≤ B ∧ ∀ f ∈ X, f.ok W Own
section
variable {w W W' : World} {h many : Nat} {L : List It} {X : List Fb}
theorem PS.b (H : PS w W h many L X) : Below w.heap.size w W := by obtain ⟨B, Own, q, b, hB, hX⟩ := H; exact b
theorem PS.facts (H : PS w W h many L X) : (1 ≤ many ∧ many ≤ 8) ∧ (∀ x ∈ L, x.Ok many) ∧ (L.map (·.id)).Nodup := by obtain ⟨B, Own, q, b, hB, hX⟩ := H; exact ⟨q.facts.1, q.facts.2.1, q.facts.2.2.1⟩
theorem PS.below (H : PS w W h many L X) (b2 : Below W.heap.size W W') : PS w W' h many L X := by
  obtain ⟨B, Own, q, b, hB, hX⟩ := H
  exact ⟨B, Own, q.below b2, b.trans (b2.mono b.size), hB, fun f hf => (hX f hf).below b2⟩
theorem PS.alloc (H : PS w W h many L X) (o : Obj) : PS w (W.alloc o) h many L X := H.below ((Below.refl _ W).alloc (Nat.le_refl _) _)
theorem PS.drew (H : PS w W h many L X) : PS w W.drew h many L X := H.below (Below.refl _ W).drew
theorem PS.drewN (H : PS w W h many L X) (n : Nat) : PS w (W.drewN n) h many L X := H.below ⟨rfl, rfl, rfl, Nat.le_refl _, fun _ _ => rfl⟩
theorem PS.less (H : PS w W h many L X) {Y : List Fb} (hs : ∀ f ∈ Y, f ∈ X) : PS w W h many L Y := by
  obtain ⟨B, Own, q, b, hB, hX⟩ := H
  exact ⟨B, Own, q, b, hB, fun f hf => hX f (hs f hf)⟩
/-- A new block. -/
theorem PS.blk (H : PS w W h many L X) (t : TypeId) (cs : Array Value) : PS w (W.alloc (.cells cs t)) h many L (.blk W.heap.size t cs :: X) := by
  obtain ⟨B, Own, q, b, hB, hX⟩ := H
  refine ⟨B, Own, q.alloc _, b.alloc b.size _, hB, fun f hf => ?_⟩
  rcases List.mem_cons.1 hf with rfl | hf
  · exact ⟨Blk.new _ _ _, fun e => by have := (q.lt e).1; omega⟩
  · exact (hX f hf).below ((Below.refl _ W).alloc (Nat.le_refl _) _)
/-- A new row. -/
theorem PS.row (H : PS w W h many L X) {v : Value} {P : List It} (b2 : Below W.heap.size W W') (hr : OwnI W' W.heap.size v P) : PS w W' h many L (.row v P :: X) := by
  obtain ⟨B, Own, q, b, hB, hX⟩ := H
  refine ⟨B, Own, q.below b2, b.trans (b2.mono b.size), hB, fun f hf => ?_⟩
  rcases List.mem_cons.1 hf with rfl | hf
  · exact ⟨_, hr, fun k e ho => by have := (q.lt ho).1; have := (hr.lt e).2; omega⟩
  · exact (hX f hf).below b2
theorem PS.atBlk (H : PS w W h many L X) {g : Nat} {t : TypeId} {cs : Array Value} (hf : .blk g t cs ∈ X) : Blk W g t cs := by
  obtain ⟨B, Own, q, b, hB, hX⟩ := H
  exact (hX _ hf).1
theorem PS.atRow (H : PS w W h many L X) {v : Value} {P : List It} (hf : .row v P ∈ X) : ∃ B, OwnI W B v P := by
  obtain ⟨B, Own, q, b, hB, hX⟩ := H
  obtain ⟨B', h1, _⟩ := hX _ hf
  exact ⟨B', h1⟩
theorem PS.mv {B : Nat} {Own Own' : Nat → Prop} {L' : List It} (q : Qu W B h Own many L) (b : Below w.heap.size w W) (hB : w.heap.size ≤ B) (hX : ∀ f ∈ X, f.ok W Own) (q' : Qu W' B h Own' many L') (m : Mv W W' Own Own') : PS w W' h many L' X :=
  ⟨B, Own', q', b.trans ((law_step q (B := B) (w := W) (Below.refl _ _) m).mono hB), hB, fun f hf => (hX f hf).mv m⟩

theorem ps_new (b : Below w.heap.size w W) (n : Nat) (h1 : 1 ≤ n) (h8 : n ≤ 8) : Calls Try.prog 8 #[.int .i64 (n : Int)] W fun e w' => ∃ h, e = .returned (.tuple #[.pointer (some ⟨h, 0, none⟩), .int .i64 0]) ∧ PS w w' h n [] := by
  refine (new_yes W n h1 h8).mono ?_
  rintro e w2 ⟨h, Own, rfl, hQ, hb, hl⟩
  exact ⟨h, rfl, _, _, hQ, b.trans (hb.mono b.size), b.size, fun f hf => by simp at hf⟩
theorem ps_put (H : PS w W h many L X) (p k fl c : Int) (hp : i64 p) (hk : i64 k) (hf : i64 fl) (hc : i64 c) (hl : L.length < 100000) :
    Calls Try.prog 10 #[.pointer (some ⟨h, 0, none⟩), .int .i64 p, .int .i64 k, .int .i64 fl, .int .i64 c] W fun e w' =>
      e = .returned (.int .i64 (putE many p k fl c)) ∧ ∃ bk, PS w w' h many (putS many L p k fl c bk) X := by
  obtain ⟨B, Own, q, b, hB, hX⟩ := H
  refine (put_any q p k fl c hp hk hf hc hl).mono ?_
  rintro e w' ⟨rfl, bk, Own', q', m⟩
  exact ⟨rfl, bk, PS.mv q b hB hX q' m⟩
theorem ps_move (H : PS w W h many L X) {k p : Int} (hk : i64 k) : Calls Try.prog 14 #[.pointer (some ⟨h, 0, none⟩), .int .i64 k, .int .i64 p] W fun e w' =>
    e = .returned (.int .i64 (moveE many L k p)) ∧ PS w w' h many (moveS many L k p) X := by
  obtain ⟨B, Own, q, b, hB, hX⟩ := H
  refine (move_any q (p := p) hk).mono ?_
  rintro e w' ⟨rfl, Own', q', m⟩
  exact ⟨rfl, PS.mv q b hB hX q' m⟩
theorem ps_cut (H : PS w W h many L X) {k : Int} (hk : i64 k) : Calls Try.prog 12 #[.pointer (some ⟨h, 0, none⟩), .int .i64 k] W fun e w' =>
    e = .returned (.bool (hasI L k)) ∧ PS w w' h many (cutL L k) X := by
  obtain ⟨B, Own, q, b, hB, hX⟩ := H
  refine (cut_any q hk).mono ?_
  rintro e w' ⟨rfl, Own', q', m⟩
  exact ⟨rfl, PS.mv q b hB hX q' m⟩
theorem ps_has (H : PS w W h many L X) {k : Int} (hk : i64 k) : Calls Try.prog 19 #[.pointer (some ⟨h, 0, none⟩), .int .i64 k] W fun e w' =>
    e = .returned (.tuple #[.agg #[.int .i64 (hasX L k).id, .int .i64 (hasX L k).fl, .int .i64 (hasX L k).ct], .int .i64 ((hasX L k).pr : Int), .bool (hasI L k)]) ∧ PS w w' h many L X := by
  obtain ⟨B, Own, q, b, hB, hX⟩ := id H
  exact (has_any q hk).mono fun e w' ⟨he, hb⟩ => ⟨he, H.below hb⟩
theorem ps_len (H : PS w W h many L X) : Calls Try.prog 21 #[.pointer (some ⟨h, 0, none⟩)] W fun e w' => e = .returned (.int .i64 (L.length : Int)) ∧ W = w' := by
  obtain ⟨B, Own, q, b, hB, hX⟩ := H
  exact len_any q
theorem ps_list (H : PS w W h many L X) (p : Int) : Calls Try.prog 25 #[.pointer (some ⟨h, 0, none⟩), .int .i64 p] W fun e w' => ∃ A c, e = .returned (.slice A (listP many L p).length c) ∧ PS w w' h many L (.row (.slice A (listP many L p).length c) (listP many L p) :: X) := by
  obtain ⟨B, Own, q, b, hB, hX⟩ := id H
  refine (list_any q p).mono ?_
  rintro e w' ⟨v, rfl, hr, hb⟩
  obtain ⟨A, c, rfl, _⟩ := hr.form
  exact ⟨A, c, rfl, H.row hb hr⟩
theorem ps_least (H : PS w W h many L X) : Calls Try.prog 22 #[.pointer (some ⟨h, 0, none⟩)] W fun e w' => e = .returned (.int .i64 (leastI L)) ∧ PS w w' h many L X := by
  obtain ⟨B, Own, q, b, hB, hX⟩ := id H
  exact (least_any q).mono fun e w' ⟨he, hb⟩ => ⟨he, H.below hb⟩
theorem ps_batch (H : PS w W h many L X) : Calls Try.prog 16 #[.pointer (some ⟨h, 0, none⟩)] W fun e w' => ∃ A c, e = .returned (.slice A (batchL L).length c) ∧ PS w w' h many (restL L) (.row (.slice A (batchL L).length c) (batchL L) :: X) := by
  obtain ⟨B, Own, q, b, hB, hX⟩ := H
  refine (batch_any q).mono ?_
  rintro e w' ⟨v, rfl, hrow, Own', q', m, hap⟩
  obtain ⟨A, c, rfl, _⟩ := hrow.form
  obtain ⟨B2, Own2, r1, r2, r3, r4⟩ := PS.mv q b hB hX q' m
  refine ⟨A, c, rfl, B, Own', q', r2, hB, fun f hf => ?_⟩
  rcases List.mem_cons.1 hf with rfl | hf
  · exact ⟨_, hrow, hap⟩
  · exact (hX f hf).mv m
/-- What a walk reads of a row. -/
theorem PS.rowAt (H : PS w W h many L X) {A : Option Addr} {n c : Nat} {P : List It} (hf : .row (.slice A n c) P ∈ X) : n = P.length ∧ (0 < n → ∃ g, A = some ⟨g, 0, none⟩ ∧ g < W.heap.size ∧
    ∀ i x, P[i]? = some x → W.cell? ⟨g, i * 3, none⟩ = some (.int .i64 x.id) ∧ W.cell? ⟨g, i * 3 + 1, none⟩ = some (.int .i64 x.fl) ∧ W.cell? ⟨g, i * 3 + 2, none⟩ = some (.int .i64 x.ct)) := by
  obtain ⟨B, hr⟩ := H.atRow hf
  obtain ⟨A', c', e, hform⟩ := hr.form
  injection e with e1 e2 e3
  subst e1; subst e3
  refine ⟨e2, fun h0 => ?_⟩
  obtain ⟨g, eg, hg, _, hc⟩ := hform (by omega)
  exact ⟨g, eg, hg, hc⟩
end

section
variable {L M N : List It} {k : Int} {p many : Nat}
theorem hasX_split {x : It} (h : ((M ++ x :: N).map (·.id)).Nodup) : hasX (M ++ x :: N) x.id = x := by unfold hasX; rw [find_split h]; rfl
theorem move_same (hh : hasI L k = true) (hn : (L.map (·.id)).Nodup) (e : (hasX L k).pr = p) : moveL L k p = L := by
  obtain ⟨M, x, N, rfl, rfl⟩ := split_id hh
  rw [hasX_split hn] at e
  rw [move_split hn, if_pos e]
theorem move_far (hh : hasI L k = true) (hn : (L.map (·.id)).Nodup) (e : (hasX L k).pr ≠ p) : moveL L k p = cutL L k ++ [{ hasX L k with pr := p }] := by
  obtain ⟨M, x, N, rfl, rfl⟩ := split_id hh
  rw [hasX_split hn] at e ⊢
  rw [move_split hn, if_neg e, cut_split hn]
theorem cut_len1 (hh : hasI L k = true) (hn : (L.map (·.id)).Nodup) : (cutL L k).length + 1 = L.length := by
  obtain ⟨M, x, N, rfl, rfl⟩ := split_id hh
  rw [cut_split hn]; simp; omega
theorem move_len (hh : hasI L k = true) (hn : (L.map (·.id)).Nodup) : (moveL L k p).length = L.length := by
  by_cases e : (hasX L k).pr = p
  · rw [move_same hh hn e]
  · rw [move_far hh hn e, List.length_append, ← cut_len1 hh hn]; rfl
/-- The one that was moved is there, as it was, in its new queue. -/
theorem move_has (hh : hasI L k = true) (hn : (L.map (·.id)).Nodup) : hasI (moveL L k p) k = true ∧ hasX (moveL L k p) k = { hasX L k with pr := p } := by
  by_cases e : (hasX L k).pr = p
  · rw [move_same hh hn e]
    exact ⟨hh, by subst e; rfl⟩
  · have hx := (hasX_mem hh).2
    rw [move_far hh hn e]
    refine ⟨hasI_iff.2 ⟨{ hasX L k with pr := p }, by simp, hx⟩, ?_⟩
    have h0 := cut_gone L k
    unfold hasX at hx ⊢
    rw [List.find?_append, find_none h0]
    simp [hx]
theorem move_last (hh : hasI L k = true) (hn : (L.map (·.id)).Nodup) (e : (hasX L k).pr ≠ p) : ofP (moveL L k p) p = ofP (cutL L k) p ++ [{ hasX L k with pr := p }] := by
  rw [move_far hh hn e]
  simp [ofP]
theorem moveE_of (hh : hasI L k = true) (hp : p < many) : moveE many L k (p : Int) = 0 ∧ moveS many L k (p : Int) = moveL L k p := by
  have : moveOk many L k (p : Int) = true := by unfold moveOk; rw [hh]; simp; omega
  unfold moveE moveS
  rw [this]; simp
theorem moveE_not {p : Int} (h : hasI L k = false ∨ p < 0 ∨ (many : Int) ≤ p) : moveE many L k p = 2 ∧ moveS many L k p = L := by
  have : moveOk many L k p = false := by
    unfold moveOk
    rcases h with h | h
    · rw [h]; rfl
    · simp; intro _; omega
  unfold moveE moveS
  rw [this]; simp
end
end Go.Proofs.Ytlkmmbondelheaa
