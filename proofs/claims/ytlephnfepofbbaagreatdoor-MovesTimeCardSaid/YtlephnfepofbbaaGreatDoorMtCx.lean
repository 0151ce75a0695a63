/-
  A script of any steps that may be sleeps in a world with one wire to outside.
-/
import Derived.Test.YtlephnfepofbbaaGreatDoorMtTake
namespace Go.Proofs.YtlephnfepofbbaaGreatDoor
open Go.RowKit Go.Shelf Go.Maps Go.ChangeMaps

/-- What a script's steps are. -/
def Good (l : List St) : Prop := ∀ x ∈ l, stOk x = true ∧ x.Wf
theorem Good.tail {x : St} {l : List St} (h : Good (x :: l)) : Good l := fun y hy => h y (by simp [hy])
theorem Good.psL {l : List St} (h : Good l) (n : Nat) : Good (psL n l) := by
  cases l with
  | nil => exact h
  | cons x r =>
    intro y hy
    rcases List.mem_cons.1 hy with rfl | hy
    · obtain ⟨h1, h2, h3⟩ := h x (by simp)
      exact ⟨h1, by show x.t - n ≤ _; omega, h3⟩
    · exact h y (by simp [hy])
theorem psL_len (n : Nat) (l : List St) : (psL n l).length = l.length := by cases l <;> rfl
/-- A world and a script beside it, between two calls. -/
def P1 (B0 : Nat) (W0 X : World) (p : Nat) (D D2 : Nat → Prop) (kb : Nat) (l : List St) (o : List Int) (S : Ws) (w : World) : Prop :=
  Sk D kb w l o ∧ (∃ N, Od B0 W0 p S N D2 w ∧ N + 60000 * l.length ≤ 700000000) ∧ Good l ∧ OneS S ∧ S.now ≤ 18446744073709551615 ∧ ∀ b, D2 b → ¬ D b → w.heap[b]? = X.heap[b]?
theorem cx1 {B0 : Nat} {W0 X : World} {p : Nat} {D D2 : Nat → Prop} {kb hk : Nat} {hv : Value} (hD : ∀ b, D b → D2 b) (hB : ∀ b, D b → B0 ≤ b) (hT : ∀ W, Below B0 W0 W → TabF W) (h1 : D2 hk) (h2 : ¬ D hk) (hX : Blk X hk 44 #[hv]) : Cx kb p hk hv mkL (P1 B0 W0 X p D D2 kb) where
  sk := fun h => ⟨D, h.1⟩
  nums := fun h x hx => (h.2.2.1 x hx).2.1
  hold := fun h => (hX.same (h.2.2.2.2.2 hk h1 h2)).cell 0
  pass := fun {l o S w} h n hn hl => by
    obtain ⟨a1, ⟨N, a2, a6⟩, a3, a4, a5, a7⟩ := h
    refine (kpass_any a1 a2 hD hB n hn a5 (fun x hx => ⟨hl x hx, (a3 x (List.mem_of_mem_head? hx)).2.1⟩)).mono ?_
    rintro e w' ⟨rfl, b1, b2, b3⟩
    exact ⟨rfl, b2, ⟨N, b1, by rw [psL_len]; exact a6⟩, a3.psL n, a4.pass n, by unfold Ws.pass; simp; omega, fun b u v => (b3 b u v).trans (a7 b u v)⟩
  take := fun {x r o S w} h => by
    obtain ⟨a1, ⟨N, a2, a6⟩, a3, a4, a5, a7⟩ := h
    have hlen : (x :: r).length = r.length + 1 := rfl
    rw [hlen] at a6
    refine (mtake_any a1 a2 hD hB a4 (a3 x (by simp)).1 (a3 x (by simp)).2 hT (by omega)).mono ?_
    rintro e w' ⟨rfl, b1, b2, b3⟩
    exact ⟨rfl, b2, ⟨_, b1, by omega⟩, a3.tail, mkL_one _ a4, by rw [mkL_now]; exact a5, fun b u v => (b3 b u v).trans (a7 b u v)⟩
/-- A script sleeps. -/
theorem sleepM {B0 : Nat} {W0 : World} {p N : Nat} {S : Ws} {D D2 : Nat → Prop} {sb kb : Nat} {w : World} {l : List St} {o : List Int} (h : Blk w sb 88 #[.pointer (some ⟨kb, 0, none⟩)]) (hs : Sk D kb w l o) (ho : Od B0 W0 p S N D2 w) (hN : N + 60000 * l.length ≤ 700000000) (hD : ∀ b, D b → D2 b) (hB : ∀ b, D b → B0 ≤ b) (hT : ∀ W, Below B0 W0 W → TabF W) (hsb : D2 sb ∧ ¬ D sb)
    (hl : Good l) (h1 : OneS S) (hn : S.now ≤ 18446744073709551615) (rest : Nat) (hr : rest ≤ 18446744073709551615) :
    Calls Tryz.prog 12 #[.pointer (some ⟨sb, 0, none⟩), .pointer (some ⟨p, 0, none⟩), .int .u64 (rest : Int), .bool false, .nilFunc] w fun e w' => ∃ i l' o' S', slL mkL false false rest l o S = (i, l', o', S') ∧ e = .returned (.int .i64 (i : Int)) ∧ Sk D kb w' l' o' ∧ (∃ N', Od B0 W0 p S' N' D2 w' ∧ N' + 60000 * l'.length ≤ 700000000) ∧ Good l' ∧ OneS S' ∧ S'.now ≤ 18446744073709551615 ∧ (∀ b, D2 b → ¬ D b → w'.heap[b]? = w.heap[b]?) ∧ Blk w' sb 88 #[.pointer (some ⟨kb, 0, none⟩)] ∧ w.heap.size ≤ w'.heap.size := by
  have hal : ∀ j, D2 j → (w.alloc (.cells #[.nilFunc] 44)).heap[j]? = w.heap[j]? := fun j hj => Below.heap_alloc _ _ _ (ho.lt hj)
  have hne : ¬ D w.heap.size := fun e => by have := ho.lt (hD _ e); omega
  have hbx := Blk.new w 44 #[.nilFunc]
  refine (sleep_any h ho (cx1 (B0 := B0) (W0 := W0) (X := w.alloc (.cells #[.nilFunc] 44)) (D := D) (D2 := fun b => b = w.heap.size ∨ D2 b) (fun b hb => Or.inr (hD b hb)) hB hT (Or.inl rfl) hne hbx) (Or.inl rfl) ans_nil false rest hr ⟨hs.same (fun j hj => hal j (hD j hj)), ⟨N, ho.alloc _, hN⟩, hl, h1, hn, fun _ _ _ => rfl⟩).mono ?_
  rintro e w' ⟨i, l', o', S', he, rfl, a1, ⟨N', a2, a6⟩, a3, a4, a5, a7⟩
  have hk : ∀ b, D2 b → ¬ D b → w'.heap[b]? = w.heap[b]? := fun j hj hn => (a7 j (Or.inr hj) hn).trans (hal j hj)
  have hb' : Blk w' w.heap.size 44 #[.nilFunc] := hbx.same (a7 _ (Or.inl rfl) hne)
  exact ⟨i, l', o', S', he, rfl, a1, ⟨N', a2.less (fun j hj => Or.inr hj), a6⟩, a3, a4, a5, hk, h.same (hk sb hsb.1 hsb.2), Nat.le_of_lt hb'.lt⟩

/-- Two worlds beside each other, and blocks beside both. -/
def G2 (B : Nat) (W : World) (p : Nat) (S : Ws) (N : Nat) (p2 : Nat) (S2 : Ws) (N2 : Nat) (D : Nat → Prop) (w : World) : Prop :=
  ∃ L L2, L.p = p ∧ L2.p = p2 ∧ Wd w B L S ∧ Wd w B L2 S2 ∧ Below B W w ∧ S.le N ∧ S2.le N2 ∧ (∀ b, L.F b → ¬ L2.F b) ∧ ∀ b, D b → Beside w L b ∧ Beside w L2 b
section
variable {B : Nat} {W w w' : World} {p p2 : Nat} {S S2 : Ws} {N N2 : Nat} {D D' : Nat → Prop}
theorem G2.swap (h : G2 B W p S N p2 S2 N2 D w) : G2 B W p2 S2 N2 p S N D w := by
  obtain ⟨L, L2, h1, h2, h3, h4, h5, h6, h7, h8, h9⟩ := h
  exact ⟨L2, L, h2, h1, h4, h3, h5, h7, h6, fun b hb hb2 => h8 b hb2 hb, fun b hb => ⟨(h9 b hb).2, (h9 b hb).1⟩⟩
theorem G2.bel (h : G2 B W p S N p2 S2 N2 D w) : Below B W w := by obtain ⟨_, _, _, _, _, _, h5, _⟩ := h; exact h5
theorem G2.base (h : G2 B W p S N p2 S2 N2 D w) : B ≤ w.heap.size := by obtain ⟨_, _, _, _, h3, _⟩ := h; exact h3.hs
theorem G2.less (h : G2 B W p S N p2 S2 N2 D w) (hD : ∀ b, D' b → D b) : G2 B W p S N p2 S2 N2 D' w := by
  obtain ⟨L, L2, h1, h2, h3, h4, h5, h6, h7, h8, h9⟩ := h
  exact ⟨L, L2, h1, h2, h3, h4, h5, h6, h7, h8, fun b hb => h9 b (hD b hb)⟩
theorem G2.below (h : G2 B W p S N p2 S2 N2 D w) (hb : Below w.heap.size w w') : G2 B W p S N p2 S2 N2 D w' := by
  obtain ⟨L, L2, h1, h2, h3, h4, h5, h6, h7, h8, h9⟩ := h
  exact ⟨L, L2, h1, h2, h3.below hb, h4.below hb, h5.trans (hb.mono h3.hs), h6, h7, h8, fun b hb' => ⟨⟨Nat.lt_of_lt_of_le (h9 b hb').1.1 hb.size, (h9 b hb').1.2⟩, ⟨Nat.lt_of_lt_of_le (h9 b hb').2.1 hb.size, (h9 b hb').2.2⟩⟩⟩
/-- The first one by itself, the second one's blocks beside it. -/
theorem G2.one (h : G2 B W p S N p2 S2 N2 D w) : ∃ F : Nat → Prop, Od B W p S N (fun b => D b ∨ F b) w ∧ (∀ b, D b → ¬ F b) ∧ ∀ S' N' w', Od B W p S' N' (fun b => D b ∨ F b) w' → (∀ b, F b → w'.heap[b]? = w.heap[b]?) → w.heap.size ≤ w'.heap.size → G2 B W p S' N' p2 S2 N2 D w' := by
  obtain ⟨L, L2, h1, h2, h3, h4, h5, h6, h7, h8, h9⟩ := h
  refine ⟨L2.F, ⟨L, h1, h3, h5, h6, fun b hb => ?_⟩, fun b hb => (h9 b hb).2.2, fun S' N' w' ho hk hs => ?_⟩
  · rcases hb with hb | hb
    · exact (h9 b hb).1
    · exact ⟨(h4.ltF hb).1, fun e => h8 b e hb⟩
  · obtain ⟨L', k1, k2, k3, k4, k5⟩ := ho
    exact ⟨L', L2, k1, h2, k2, h4.same hk hs, k3, k4, h7, fun b hb hb2 => (k5 b (Or.inr hb2)).2 hb, fun b hb => ⟨k5 b (Or.inl hb), ⟨Nat.lt_of_lt_of_le (h9 b hb).2.1 hs, (h9 b hb).2.2⟩⟩⟩
/-- A second world is made. -/
theorem g2_new (h : Od B W p S N D w) : Calls Tryz.prog 7 #[] w fun e w' => ∃ p2, e = .returned (.pointer (some ⟨p2, 0, none⟩)) ∧ G2 B W p S N p2 Ws.new 0 D w' ∧ Below w.heap.size w w' := by
  obtain ⟨L, h1, h2, h3, h4, h5⟩ := h
  refine (wNew_any w B h2.hs).mono ?_
  rintro e w' ⟨L2, rfl, k1, k2, k3⟩
  refine ⟨L2.p, rfl, ⟨L, L2, h1, rfl, h2.below k2, k1, h3.trans (k2.mono h2.hs), h4, fun i x hx => by simp [Ws.new] at hx, fun b hb hb2 => ?_, fun b hb => ⟨⟨Nat.lt_of_lt_of_le (h5 b hb).1 k2.size, (h5 b hb).2⟩, ⟨Nat.lt_of_lt_of_le (h5 b hb).1 k2.size, fun hb2 => ?_⟩⟩⟩, k2⟩
  · have := (h2.ltF hb).1; have := k3 b hb2; omega
  · have := (h5 b hb).1; have := k3 b hb2; omega
theorem G2.outer (h : G2 B W p Ws.new N p2 S2 N2 D w) : Calls Tryz.prog 21 #[.pointer (some ⟨p, 0, none⟩), .int .i64 50] w fun e w' => (∃ a b c, e = .returned (.tuple #[.int .i64 a, .int .i64 b, .int .i64 c])) ∧ G2 B W p (oneS 0 oW) N p2 S2 N2 D w' ∧ (∀ b, D b → w'.heap[b]? = w.heap[b]?) ∧ w.heap.size ≤ w'.heap.size := by
  obtain ⟨F, h1, _, h2⟩ := h.one
  have ho := h1.outer 50 (by omega) (by omega) (by simp [Ws.new]) (fd := 0) (by decide)
  rw [outer_oneS] at ho
  refine ho.mono ?_
  rintro e w' ⟨rfl, k1, k2, k3⟩
  exact ⟨⟨_, _, _, rfl⟩, h2 _ _ _ k1 (fun b hb => k2 b (Or.inr hb)) k3, fun b hb => k2 b (Or.inl hb), k3⟩
end
/-- Two worlds with one wire each, and two scripts; X is held fast besides. -/
structure Sc2 (B : Nat) (W : World) (p : Nat) (S : Ws) (sb kb : Nat) (D : Nat → Prop) (l : List St) (o : List Int) (p2 : Nat) (S2 : Ws) (sb2 kb2 : Nat) (D2 : Nat → Prop) (l2 : List St) (o2 : List Int) (X : Nat → Prop) (w : World) : Prop where
  g : ∃ N N2, G2 B W p S N p2 S2 N2 (fun b => ((D b ∨ b = sb) ∨ (D2 b ∨ b = sb2)) ∨ X b) w ∧ N + 60000 * l.length ≤ 700000000 ∧ N2 + 60000 * l2.length ≤ 700000000
  b1 : Blk w sb 88 #[.pointer (some ⟨kb, 0, none⟩)]
  b2 : Blk w sb2 88 #[.pointer (some ⟨kb2, 0, none⟩)]
  s1 : Sk D kb w l o
  s2 : Sk D2 kb2 w l2 o2
  ap : (∀ b, D b → ¬ D2 b) ∧ ¬ D sb ∧ ¬ D2 sb2 ∧ ¬ D sb2 ∧ ¬ D2 sb
  xp : ∀ b, X b → ¬ D b ∧ ¬ D2 b
  hB : (∀ b, D b → B ≤ b) ∧ ∀ b, D2 b → B ≤ b
  l1 : Good l
  l2 : Good l2
  o1 : OneS S
  o2 : OneS S2
  n1 : S.now ≤ 18446744073709551615
  n2 : S2.now ≤ 18446744073709551615
section
variable {B : Nat} {W w w' : World} {p : Nat} {S : Ws} {sb kb : Nat} {D : Nat → Prop} {l : List St} {o : List Int} {p2 : Nat} {S2 : Ws} {sb2 kb2 : Nat} {D2 : Nat → Prop} {l2 : List St} {o2 : List Int} {X : Nat → Prop}
theorem Sc2.swap (h : Sc2 B W p S sb kb D l o p2 S2 sb2 kb2 D2 l2 o2 X w) : Sc2 B W p2 S2 sb2 kb2 D2 l2 o2 p S sb kb D l o X w := by
  obtain ⟨⟨N, N2, g, n1, n2⟩, b1, b2, s1, s2, ⟨a1, a2, a3, a4, a5⟩, xp, ⟨c1, c2⟩, d1, d2, e1, e2, f1, f2⟩ := h
  exact ⟨⟨N2, N, g.swap.less (fun b hb => hb.elim (fun h => Or.inl h.symm) Or.inr), n2, n1⟩, b2, b1, s2, s1, ⟨fun b h1 h2 => a1 b h2 h1, a3, a2, a5, a4⟩, fun b hb => ⟨(xp b hb).2, (xp b hb).1⟩, ⟨c2, c1⟩, d2, d1, e2, e1, f2, f1⟩
theorem Sc2.bel (h : Sc2 B W p S sb kb D l o p2 S2 sb2 kb2 D2 l2 o2 X w) : Below B W w := by obtain ⟨_, _, g, _⟩ := h.g; exact g.bel
theorem Sc2.base (h : Sc2 B W p S sb kb D l o p2 S2 sb2 kb2 D2 l2 o2 X w) : B ≤ w.heap.size := by obtain ⟨_, _, g, _⟩ := h.g; exact g.base
theorem Sc2.od (h : Sc2 B W p S sb kb D l o p2 S2 sb2 kb2 D2 l2 o2 X w) : ∃ N D3, Od B W p S N D3 w := by
  obtain ⟨N, N2, g, _⟩ := h.g
  obtain ⟨F, h1, _⟩ := g.one
  exact ⟨N, _, h1⟩
theorem Sc2.lt (h : Sc2 B W p S sb kb D l o p2 S2 sb2 kb2 D2 l2 o2 X w) : ∀ b, ((D b ∨ b = sb) ∨ (D2 b ∨ b = sb2)) ∨ X b → b < w.heap.size := fun b hb' => by
  obtain ⟨_, _, ⟨L, L2, _, _, _, _, _, _, _, _, h9⟩, _⟩ := h.g
  exact (h9 b hb').1.1
/-- What is new is held fast from now on. -/
theorem Sc2.grow (h : Sc2 B W p S sb kb D l o p2 S2 sb2 kb2 D2 l2 o2 X w) (hb : Below w.heap.size w w') : Sc2 B W p S sb kb D l o p2 S2 sb2 kb2 D2 l2 o2 (fun b => X b ∨ (w.heap.size ≤ b ∧ b < w'.heap.size)) w' := by
  have hlt := h.lt
  obtain ⟨⟨N, N2, g, n1, n2⟩, b1, b2, s1, s2, a, xp, c, d1, d2, e1, e2, f1, f2⟩ := h
  refine ⟨⟨N, N2, ?_, n1, n2⟩, b1.same (hb.block _ b1.lt), b2.same (hb.block _ b2.lt), s1.same (fun b h => hb.block b (hlt b (Or.inl (Or.inl (Or.inl h))))), s2.same (fun b h => hb.block b (hlt b (Or.inl (Or.inr (Or.inl h))))), a, fun b hX => ?_, c, d1, d2, e1, e2, f1, f2⟩
  · obtain ⟨L, L2, g1, g2, g3, g4, g5, g6, g7, g8, g9⟩ := g
    refine ⟨L, L2, g1, g2, g3.below hb, g4.below hb, g5.trans (hb.mono g3.hs), g6, g7, g8, fun b hb' => ?_⟩
    have old : (((D b ∨ b = sb) ∨ (D2 b ∨ b = sb2)) ∨ X b) → Beside w' L b ∧ Beside w' L2 b := fun h0 => ⟨⟨Nat.lt_of_lt_of_le (g9 b h0).1.1 hb.size, (g9 b h0).1.2⟩, ⟨Nat.lt_of_lt_of_le (g9 b h0).2.1 hb.size, (g9 b h0).2.2⟩⟩
    rcases hb' with h0 | h0 | h0
    · exact old (Or.inl h0)
    · exact old (Or.inr h0)
    · exact ⟨g3.beside hb.size h0.1 h0.2, g4.beside hb.size h0.1 h0.2⟩
  · rcases hX with hX | hX
    · exact xp b hX
    · exact ⟨fun hd => by have := hlt b (Or.inl (Or.inl (Or.inl hd))); omega, fun hd => by have := hlt b (Or.inl (Or.inr (Or.inl hd))); omega⟩
theorem Sc2.less {X' : Nat → Prop} (h : Sc2 B W p S sb kb D l o p2 S2 sb2 kb2 D2 l2 o2 X w) (hX : ∀ b, X' b → X b) : Sc2 B W p S sb kb D l o p2 S2 sb2 kb2 D2 l2 o2 X' w := by
  obtain ⟨⟨N, N2, g, n1, n2⟩, b1, b2, s1, s2, a, xp, c, d1, d2, e1, e2, f1, f2⟩ := h
  exact ⟨⟨N, N2, g.less (fun b hb => hb.elim Or.inl (fun h => Or.inr (hX b h))), n1, n2⟩, b1, b2, s1, s2, a, fun b hb => xp b (hX b hb), c, d1, d2, e1, e2, f1, f2⟩
/-- The world grew. -/
theorem Sc2.on (h : Sc2 B W p S sb kb D l o p2 S2 sb2 kb2 D2 l2 o2 X w) (hb : Below w.heap.size w w') : Sc2 B W p S sb kb D l o p2 S2 sb2 kb2 D2 l2 o2 X w' := (h.grow hb).less (fun b h => Or.inl h)
/-- The first script sleeps in the first world. -/
theorem Sc2.sleep (h : Sc2 B W p S sb kb D l o p2 S2 sb2 kb2 D2 l2 o2 X w) (hT : ∀ W', Below B W W' → TabF W') (rest : Nat) (hr : rest ≤ 18446744073709551615) :
    Calls Tryz.prog 12 #[.pointer (some ⟨sb, 0, none⟩), .pointer (some ⟨p, 0, none⟩), .int .u64 (rest : Int), .bool false, .nilFunc] w fun e w' => ∃ i l' o' S', slL mkL false false rest l o S = (i, l', o', S') ∧ e = .returned (.int .i64 (i : Int)) ∧ Sc2 B W p S' sb kb D l' o' p2 S2 sb2 kb2 D2 l2 o2 X w' ∧ (∀ b, X b → w'.heap[b]? = w.heap[b]?) ∧ w.heap.size ≤ w'.heap.size := by
  obtain ⟨⟨N, N2, g, n1, n2⟩, b1, b2, s1, s2, ⟨a1, a2, a3, a4, a5⟩, xp, ⟨c1, c2⟩, d1, d2, e1, e2, f1, f2⟩ := h
  obtain ⟨F, g1, gd, g2⟩ := g.one
  refine (sleepM b1 s1 g1 n1 (fun b hb => Or.inl (Or.inl (Or.inl (Or.inl hb)))) c1 hT ⟨Or.inl (Or.inl (Or.inl (Or.inr rfl))), a2⟩ d1 e1 f1 rest hr).mono ?_
  rintro e w' ⟨i, l', o', S', he, rfl, k1, ⟨N', k2, k3⟩, k4, k5, k6, k7, k8, k9⟩
  refine ⟨i, l', o', S', he, rfl, ⟨⟨N', N2, g2 _ _ _ k2 (fun b hb => k7 b (Or.inr hb) (fun hd => gd b (Or.inl (Or.inl (Or.inl hd))) hb)) k9, k3, n2⟩, k8, b2.same (k7 _ (Or.inl (Or.inl (Or.inr (Or.inr rfl)))) a4), k1, s2.same (fun b hb => k7 b (Or.inl (Or.inl (Or.inr (Or.inl hb)))) (fun hd => a1 b hd hb)), ⟨a1, a2, a3, a4, a5⟩, xp, ⟨c1, c2⟩, k4, d2, k5, e2, k6, f2⟩, fun b hb => k7 b (Or.inl (Or.inr hb)) (xp b hb).1, k9⟩
theorem Sc2.fits (h : Sc2 B W p S sb kb D l o p2 S2 sb2 kb2 D2 l2 o2 X w) : Fits l := by
  obtain ⟨N, N2, _, n1, _⟩ := h.g
  refine ⟨by omega, fun x hx => ?_⟩
  obtain ⟨h1, h2⟩ := h.l1 x hx
  obtain ⟨a, b, _, d⟩ := stOk_parts h1
  refine ⟨by omega, by omega, fun m hm => ?_⟩
  obtain ⟨_, _, _, this, _⟩ := (mvOk_iff m).1 (d m hm)
  omega
/-- Its steps that are left. -/
theorem Sc2.left (h : Sc2 B W p S sb kb D l o p2 S2 sb2 kb2 D2 l2 o2 X w) : Calls Tryz.prog 18 #[.pointer (some ⟨sb, 0, none⟩)] w (CloR l w) := left_any h.b1 h.s1 h.fits
end
end Go.Proofs.YtlephnfepofbbaaGreatDoor
