/-
  The queues and the reference's beside each other, and blocks of the law's own.
-/
import Derived.Test.YtlkmmbondelheaaPrRef5
namespace Go.Proofs.Ytlkmmbondelheaa
open Go.RowKit Go.Maps Go.ChangeMaps Go.Shelf

/-- A block of the law's own. -/
structure Lb where
  g : Nat
  t : TypeId
  cs : Array Value
/-- Both, and blocks of the law's own. -/
def Pl (w W : World) (h r many : Nat) (v : Value) (L S : List It) (bs : List Lb) : Prop :=
  ∃ B Own, Qu W B h Own many L ∧ Rf W w.heap.size r many v S ∧ (∀ k, (k = r ∨ v.ownBlock = some k) → ¬ Own k) ∧ Below w.heap.size w W ∧ w.heap.size ≤ B ∧ ∀ b ∈ bs, Blk W b.g b.t b.cs ∧ ¬ Own b.g ∧ ¬ (b.g = r ∨ v.ownBlock = some b.g)
section
variable {w W W' : World} {h r many : Nat} {v v' : Value} {L S L' S' : List It} {bs : List Lb}
theorem Pl.b (H : Pl w W h r many v L S bs) : Below w.heap.size w W := by obtain ⟨B, Own, q, R, a, b, hB, hb⟩ := H; exact b
theorem Pl.facts (H : Pl w W h r many v L S bs) : (1 ≤ many ∧ many ≤ 8) ∧ (∀ x ∈ L, x.Ok many) ∧ (L.map (·.id)).Nodup := by obtain ⟨B, Own, q, R, a, b, hB, hb⟩ := H; exact ⟨q.facts.1, q.facts.2.1, q.facts.2.2.1⟩
theorem Pl.ref (H : Pl w W h r many v L S bs) : Rf W w.heap.size r many v S := by obtain ⟨B, Own, q, R, a, b, hB, hb⟩ := H; exact R
theorem Pl.at_ (H : Pl w W h r many v L S bs) {b : Lb} (hb : b ∈ bs) : Blk W b.g b.t b.cs := by obtain ⟨B, Own, q, R, a, b, hB, hb2⟩ := H; exact (hb2 _ hb).1
theorem Pl.below (H : Pl w W h r many v L S bs) (b2 : Below W.heap.size W W') : Pl w W' h r many v L S bs := by
  obtain ⟨B, Own, q, R, a, b, hB, hb⟩ := H
  exact ⟨B, Own, q.below b2, R.below b2, a, b.trans (b2.mono b.size), hB, fun x hx => ⟨(hb x hx).1.same (b2.block _ (hb x hx).1.lt), (hb x hx).2⟩⟩
theorem Pl.drew (H : Pl w W h r many v L S bs) : Pl w W.drew h r many v L S bs := H.below (Below.refl _ W).drew
theorem Pl.drewN (H : Pl w W h r many v L S bs) (n : Nat) : Pl w (W.drewN n) h r many v L S bs := H.below ⟨rfl, rfl, rfl, Nat.le_refl _, fun _ _ => rfl⟩
theorem Pl.alloc (H : Pl w W h r many v L S bs) (o : Obj) : Pl w (W.alloc o) h r many v L S bs := H.below ((Below.refl _ W).alloc (Nat.le_refl _) _)
theorem Pl.less (H : Pl w W h r many v L S bs) {cs : List Lb} (hs : ∀ x ∈ cs, x ∈ bs) : Pl w W h r many v L S cs := by
  obtain ⟨B, Own, q, R, a, b, hB, hb⟩ := H
  exact ⟨B, Own, q, R, a, b, hB, fun x hx => hb x (hs x hx)⟩
theorem Pl.blk (H : Pl w W h r many v L S bs) (t : TypeId) (cs : Array Value) : Pl w (W.alloc (.cells cs t)) h r many v L S (⟨W.heap.size, t, cs⟩ :: bs) := by
  obtain ⟨B, Own, q, R, a, b, hB, hb⟩ := H
  refine ⟨B, Own, q.alloc _, R.alloc _, a, b.alloc b.size _, hB, fun x hx => ?_⟩
  rcases List.mem_cons.1 hx with rfl | hx
  · exact ⟨Blk.new _ _ _, fun e => Nat.lt_irrefl _ (q.lt e).1, fun e => Nat.lt_irrefl _ (R.lt e).1⟩
  · exact ⟨(hb x hx).1.alloc _, (hb x hx).2⟩
theorem pl_mv {B : Nat} {Own Own' : Nat → Prop} (q : Qu W B h Own many L) (R : Rf W w.heap.size r many v S) (a : ∀ k, (k = r ∨ v.ownBlock = some k) → ¬ Own k) (b : Below w.heap.size w W) (hB : w.heap.size ≤ B)
    (hb : ∀ b ∈ bs, Blk W b.g b.t b.cs ∧ ¬ Own b.g ∧ ¬ (b.g = r ∨ v.ownBlock = some b.g)) (q' : Qu W' B h Own' many L') (m : Mv W W' Own Own') : Pl w W' h r many v L' S bs :=
  ⟨B, Own', q', R.kept m.k a, fun k hk e => by
      rcases m.o k e with e | e
      · exact a k hk e
      · have := (R.lt hk).1; omega,
    b.trans ((law_step q (B := B) (w := W) (Below.refl _ _) m).mono hB), hB, fun x hx => ⟨(hb x hx).1.kept m.k (hb x hx).2.1, fun e => by
      rcases m.o _ e with e | e
      · exact (hb x hx).2.1 e
      · have := (hb x hx).1.lt; omega, (hb x hx).2.2⟩⟩
theorem pl_rm {B : Nat} {Own : Nat → Prop} (q : Qu W B h Own many L) (R : Rf W w.heap.size r many v S) (a : ∀ k, (k = r ∨ v.ownBlock = some k) → ¬ Own k) (b : Below w.heap.size w W) (hB : w.heap.size ≤ B)
    (hb : ∀ b ∈ bs, Blk W b.g b.t b.cs ∧ ¬ Own b.g ∧ ¬ (b.g = r ∨ v.ownBlock = some b.g)) (R' : Rf W' w.heap.size r many v' S') (m : RM W W' r v v') : Pl w W' h r many v' L S' bs :=
  ⟨B, Own, q.kept m.1 (fun i hi e => a i e hi), R', fun k hk e => by
      rcases hk with hk | hk
      · exact a k (.inl hk) e
      · rcases m.own hk with h1 | h1
        · exact a k (.inr h1) e
        · have := (q.lt e).1; omega,
    b.trans (m.1.below (fun k e => (R.lt e).2) b.size), hB, fun x hx => ⟨(hb x hx).1.kept m.1 (hb x hx).2.2, (hb x hx).2.1, fun e => by
      rcases e with e | e
      · exact (hb x hx).2.2 (.inl e)
      · rcases m.own e with h1 | h1
        · exact (hb x hx).2.2 (.inr h1)
        · have := (hb x hx).1.lt; omega⟩⟩
theorem pl_start {B : Nat} {Own : Nat → Prop} (q : Qu W B h Own many []) (b : Below w.heap.size w W) (hB : w.heap.size ≤ B) : Pl w (W.alloc (.cells #[.int .i64 (many : Int), .slice none 0 0] 29)) h W.heap.size many (.slice none 0 0) [] [] [] :=
  ⟨B, Own, q.alloc _, ⟨Blk.new _ _ _, RowK.own_nil _ _, (fun e => by cases e), b.size⟩, (fun k hk e => hk.elim (fun e2 => by subst e2; exact Nat.lt_irrefl _ (q.lt e).1) (fun e2 => by cases e2)), b.alloc b.size _, hB, fun x hx => by simp at hx⟩

theorem pl_put (H : Pl w W h r many v L S bs) (p k fl c : Int) (hp : i64 p) (hk : i64 k) (hf : i64 fl) (hc : i64 c) (hl : L.length < 1000) :
    Calls Try.prog 10 #[.pointer (some ⟨h, 0, none⟩), .int .i64 p, .int .i64 k, .int .i64 fl, .int .i64 c] W fun e w' =>
      e = .returned (.int .i64 (putE many p k fl c)) ∧ ∃ bk, Pl w w' h r many v (putS many L p k fl c bk) S bs := by
  obtain ⟨B, Own, q, R, a, b, hB, hb⟩ := H
  refine (put_any q p k fl c hp hk hf hc (by omega)).mono ?_
  rintro e w' ⟨rfl, bk, Own', q', m⟩
  exact ⟨rfl, bk, pl_mv q R a b hB hb q' m⟩
theorem pl_rput (H : Pl w W h r many v L S bs) (hl : S.length ≤ 1000) (hu : (S.map (·.id)).Nodup) (hok : ∀ x ∈ S, x.Ok many) (p k fl c : Int) (hf : i64 fl) (hc : i64 c) (bk : Nat) :
    Calls Try.prog 11 #[.pointer (some ⟨r, 0, none⟩), .int .i64 p, .int .i64 k, .int .i64 fl, .int .i64 c] W fun e w' =>
      e = .returned (.int .i64 (putE many p k fl c)) ∧ ∃ v', Pl w w' h r many v' L (putS many S p k fl c bk) bs := by
  obtain ⟨B, Own, q, R, a, b, hB, hb⟩ := H
  refine (rput_any R hl hu hok p k fl c hf hc bk).mono ?_
  rintro e w' ⟨rfl, v', R', m⟩
  exact ⟨rfl, v', pl_rm q R a b hB hb R' m⟩
theorem pl_cut (H : Pl w W h r many v L S bs) {k : Int} (hk : i64 k) : Calls Try.prog 12 #[.pointer (some ⟨h, 0, none⟩), .int .i64 k] W fun e w' =>
    e = .returned (.bool (hasI L k)) ∧ Pl w w' h r many v (cutL L k) S bs := by
  obtain ⟨B, Own, q, R, a, b, hB, hb⟩ := H
  refine (cut_any q hk).mono ?_
  rintro e w' ⟨rfl, Own', q', m⟩
  exact ⟨rfl, pl_mv q R a b hB hb q' m⟩
theorem pl_rcut (H : Pl w W h r many v L S bs) (hl : S.length ≤ 1000) (hu : (S.map (·.id)).Nodup) (k : Int) : Calls Try.prog 13 #[.pointer (some ⟨r, 0, none⟩), .int .i64 k] W fun e w' =>
    e = .returned (.bool (hasI S k)) ∧ ∃ v', Pl w w' h r many v' L (cutL S k) bs := by
  obtain ⟨B, Own, q, R, a, b, hB, hb⟩ := H
  refine (rcut_any R hl hu k).mono ?_
  rintro e w' ⟨rfl, v', R', m⟩
  exact ⟨rfl, v', pl_rm q R a b hB hb R' m⟩
theorem pl_move (H : Pl w W h r many v L S bs) {k p : Int} (hk : i64 k) : Calls Try.prog 14 #[.pointer (some ⟨h, 0, none⟩), .int .i64 k, .int .i64 p] W fun e w' =>
    e = .returned (.int .i64 (moveE many L k p)) ∧ Pl w w' h r many v (moveS many L k p) S bs := by
  obtain ⟨B, Own, q, R, a, b, hB, hb⟩ := H
  refine (move_any q (p := p) hk).mono ?_
  rintro e w' ⟨rfl, Own', q', m⟩
  exact ⟨rfl, pl_mv q R a b hB hb q' m⟩
theorem pl_rmove (H : Pl w W h r many v L S bs) (hl : S.length ≤ 1000) (hu : (S.map (·.id)).Nodup) (k p : Int) : Calls Try.prog 15 #[.pointer (some ⟨r, 0, none⟩), .int .i64 k, .int .i64 p] W fun e w' =>
    e = .returned (.int .i64 (moveE many S k p)) ∧ ∃ v', Pl w w' h r many v' L (moveS many S k p) bs := by
  obtain ⟨B, Own, q, R, a, b, hB, hb⟩ := H
  refine (rmove_any R hl hu k p).mono ?_
  rintro e w' ⟨rfl, v', R', m⟩
  exact ⟨rfl, v', pl_rm q R a b hB hb R' m⟩
theorem pl_has (H : Pl w W h r many v L S bs) {k : Int} (hk : i64 k) : Calls Try.prog 19 #[.pointer (some ⟨h, 0, none⟩), .int .i64 k] W fun e w' =>
    e = .returned (.tuple #[.agg #[.int .i64 (hasX L k).id, .int .i64 (hasX L k).fl, .int .i64 (hasX L k).ct], .int .i64 ((hasX L k).pr : Int), .bool (hasI L k)]) ∧ Pl w w' h r many v L S bs := by
  obtain ⟨B, Own, q, R, a, b, hB, hb⟩ := id H
  exact (has_any q hk).mono fun e w' ⟨he, hb⟩ => ⟨he, H.below hb⟩
theorem pl_rhas (H : Pl w W h r many v L S bs) (hl : S.length ≤ 1000) (hu : (S.map (·.id)).Nodup) (k : Int) : Calls Try.prog 20 #[.pointer (some ⟨r, 0, none⟩), .int .i64 k] W fun e w' =>
    e = .returned (.tuple #[.agg #[.int .i64 (hasX S k).id, .int .i64 (hasX S k).fl, .int .i64 (hasX S k).ct, .int .i64 ((hasX S k).pr : Int)], .bool (hasI S k)]) ∧ Pl w w' h r many v L S bs :=
  (rhas_any H.ref hl hu k).mono fun e w' ⟨he, hb⟩ => ⟨he, H.below hb⟩
theorem pl_len (H : Pl w W h r many v L S bs) : Calls Try.prog 21 #[.pointer (some ⟨h, 0, none⟩)] W fun e w' => e = .returned (.int .i64 (L.length : Int)) ∧ W = w' := by
  obtain ⟨B, Own, q, R, a, b, hB, hb⟩ := H
  exact len_any q
theorem pl_many (H : Pl w W h r many v L S bs) : Calls Try.prog 24 #[.pointer (some ⟨h, 0, none⟩)] W fun e w' => e = .returned (.int .i64 (many : Int)) ∧ W = w' := by
  obtain ⟨B, Own, q, R, a, b, hB, hb⟩ := H
  exact many_any q
theorem pl_least (H : Pl w W h r many v L S bs) : Calls Try.prog 22 #[.pointer (some ⟨h, 0, none⟩)] W fun e w' => e = .returned (.int .i64 (leastI L)) ∧ Pl w w' h r many v L S bs := by
  obtain ⟨B, Own, q, R, a, b, hB, hb⟩ := id H
  exact (least_any q).mono fun e w' ⟨he, hb⟩ => ⟨he, H.below hb⟩
theorem pl_rleast (H : Pl w W h r many v L S bs) (hl : S.length ≤ 1000) : Calls Try.prog 23 #[.pointer (some ⟨r, 0, none⟩)] W fun e w' => e = .returned (.int .i64 (leastI S)) ∧ W = w' := rleast_any H.ref hl

/-- .. and a row of the queues' own items. -/
def PlA (w W : World) (h r many : Nat) (v : Value) (L S : List It) (bs : List Lb) (A : Option Addr) (P : List It) : Prop := Pl w W h r many v L S bs ∧ ShowI W A P ∧ ∀ k, A.map (·.block) = some k → k < W.heap.size ∧ ¬ (k = r ∨ v.ownBlock = some k)
theorem own_map {A : Option Addr} {n c k : Nat} (h : A.map (·.block) = some k) : (Value.slice A n c).ownBlock = some k := by
  cases A with
  | none => cases h
  | some a => simpa [Value.ownBlock] using h
theorem pl_list (H : Pl w W h r many v L S bs) (p : Int) : Calls Try.prog 25 #[.pointer (some ⟨h, 0, none⟩), .int .i64 p] W fun e w' => ∃ A c, e = .returned (.slice A (listP many L p).length c) ∧ PlA w w' h r many v L S bs A (listP many L p) := by
  obtain ⟨B, Own, q, R, a, b, hB, hb⟩ := id H
  refine (list_any q p).mono ?_
  rintro e w' ⟨u, rfl, hr, hb2⟩
  obtain ⟨A, c, rfl, hs⟩ := hr.showI
  exact ⟨A, c, rfl, H.below hb2, hs, fun k hk => ⟨(hr.lt (own_map hk)).1, fun e => by have := (hr.lt (own_map hk)).2; have := (R.lt e).1; omega⟩⟩
theorem pl_rlist {A : Option Addr} {P : List It} (H : PlA w W h r many v L S bs A P) (hl : S.length ≤ 1000) (hpr : ∀ x ∈ S, x.pr < many) (p : Int) : Calls Try.prog 26 #[.pointer (some ⟨r, 0, none⟩), .int .i64 p] W fun e w' =>
    ∃ A2 c2, e = .returned (.slice A2 (listP many S p).length c2) ∧ Pl w w' h r many v L S bs ∧ ShowI w' A P ∧ RI.shows w' A2 (listP many S p) := by
  refine (rlist_any H.1.ref hl p).mono ?_
  rintro e w' ⟨u, rfl, O, hb2⟩
  rw [ofZ_list hpr] at O
  obtain ⟨A2, c2, rfl, hs, _, _⟩ := RowK.own_shows O
  exact ⟨A2, c2, rfl, H.1.below hb2, H.2.1.below hb2, hs⟩
theorem pl_batch (H : Pl w W h r many v L S bs) : Calls Try.prog 16 #[.pointer (some ⟨h, 0, none⟩)] W fun e w' => ∃ A c, e = .returned (.slice A (batchL L).length c) ∧ PlA w w' h r many v (restL L) S bs A (batchL L) := by
  obtain ⟨B, Own, q, R, a, b, hB, hb⟩ := H
  refine (batch_any q).mono ?_
  rintro e w' ⟨u, rfl, hr, Own', q', m, hap⟩
  obtain ⟨A, c, rfl, hs⟩ := hr.showI
  exact ⟨A, c, rfl, pl_mv q R a b hB hb q' m, hs, fun k hk => ⟨(hr.lt (own_map hk)).1, fun e => by have := (hr.lt (own_map hk)).2; have := (R.lt e).1; omega⟩⟩
theorem pl_rbatch {A : Option Addr} {P : List It} (H : PlA w W h r many v L S bs A P) (hl : S.length ≤ 1000) (hu : (S.map (·.id)).Nodup) : Calls Try.prog 18 #[.pointer (some ⟨r, 0, none⟩)] W fun e w' =>
    ∃ A2 c2 v', e = .returned (.slice A2 (batchL S).length c2) ∧ Pl w w' h r many v' L (restL S) bs ∧ ShowI w' A P ∧ RI.shows w' A2 (batchL S) := by
  obtain ⟨⟨B, Own, q, R, a, b, hB, hb⟩, hs, hap⟩ := H
  refine (rbatch_any R hl hu).mono ?_
  rintro e w' ⟨A2, c2, v', rfl, G⟩
  have hR := G.R
  rw [List.take_length, cut_batch hu] at hR
  obtain ⟨A3, c3, e3, hs3, _, _⟩ := RowK.own_shows G.O
  injection e3 with e3
  subst e3
  exact ⟨A2, c2, v', rfl, pl_rm q R a b hB hb hR G.M, hs.same (fun g hg => G.M.1.block g (hap g hg).1 (hap g hg).2) G.M.1.size, hs3⟩
end
end Go.Proofs.Ytlkmmbondelheaa
