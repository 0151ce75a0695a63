/-
  FdsetParts, the walk: for any two sets it returns true, and nothing that lay has turned.
-/
import Derived.Test.YtnefjlglhnkbfaaDoorSetLaws
import Derived.Test.YtnefjlglhnkbfaaDoorLaid3
import Derived.Test.YtnefjlglhnkbfaaDoorOne
import Derived.Deep.DeepCutAuto
namespace Go.Proofs.YtnefjlglhnkbfaaDoor
open Go.RowKit Go.Shelf

attribute [local go_sem] Oper.semAt_some
theorem eq_self (a b : Int) : ∀ w, Sem.run Tryd.prog (Op.equalIn 10000 25 (.agg #[.int .u32 a, .int .u32 b]) (.agg #[.int .u32 a, .int .u32 b])) w = .ok true w := fun w => by rw [eqSet]; simp
/-- Sets in their variables, the newest first, no two in one block. -/
def EnvD (w : World) (l : List (Nat × Nat × Nat)) (W : World) : Prop := EnvL w l W ∧ l.Pairwise (fun x y => y.1 < x.1) ∧ ∀ x ∈ l, w.heap.size ≤ x.1
section
variable {w : World} {l : List (Nat × Nat × Nat)} {W W' : World}
theorem EnvD.fresh (h : EnvD w l W) : ∀ x ∈ l, x.1 < W.heap.size := fun x hx => World.block_lt_of_cell? W ⟨x.1, 0, none⟩ (h.1.1 x hx).1
theorem EnvD.below (h : EnvD w l W) (hb : Below W.heap.size W W') : EnvD w l W' := ⟨h.1.below hb, h.2⟩
theorem EnvD.drew (h : EnvD w l W) : EnvD w l W.drew := ⟨h.1.drew, h.2⟩
theorem EnvD.alloc (h : EnvD w l W) (o : Obj) : EnvD w l (W.alloc o) := ⟨h.1.alloc o, h.2⟩
theorem EnvD.new (h : EnvD w l W) (x y : Nat) : EnvD w ((W.heap.size, x, y) :: l) (W.alloc (.cells #[.int .u32 (x : Int), .int .u32 (y : Int)] 25)) :=
  ⟨h.1.new x y, List.pairwise_cons.2 ⟨fun z hz => h.fresh z hz, h.2.1⟩, fun z hz => by
    rcases List.mem_cons.1 hz with rfl | hz
    · exact h.1.2.size
    · exact h.2.2 z hz⟩
theorem EnvD.zero (h : EnvD w l W) : EnvD w ((W.heap.size, 0, 0) :: l) (W.alloc (.cells #[.int .u32 0, .int .u32 0] 25)) := h.new 0 0
theorem EnvD.head0 {B : Nat} (h : EnvD w ((B, 0, 0) :: l) W) :
    W.cell? ⟨B, 0, none⟩ = some (.int .u32 0) ∧ W.cell? ⟨B, 1, none⟩ = some (.int .u32 0) ∧ W.frozen? ⟨B, 0, none⟩ = false ∧ W.frozen? ⟨B, 1, none⟩ = false ∧ B < W.heap.size := by
  have := h.1.1 (B, 0, 0) (by simp)
  exact ⟨this.1, this.2.1, this.2.2.1, this.2.2.2, World.block_lt_of_cell? W ⟨B, 0, none⟩ this.1⟩
theorem EnvD.head1 {B : Nat} {x : Nat × Nat × Nat} (h : EnvD w (x :: (B, 0, 0) :: l) W) :
    W.cell? ⟨B, 0, none⟩ = some (.int .u32 0) ∧ W.cell? ⟨B, 1, none⟩ = some (.int .u32 0) ∧ W.frozen? ⟨B, 0, none⟩ = false ∧ W.frozen? ⟨B, 1, none⟩ = false ∧ B < W.heap.size := by
  have := h.1.1 (B, 0, 0) (by simp)
  exact ⟨this.1, this.2.1, this.2.2.1, this.2.2.2, World.block_lt_of_cell? W ⟨B, 0, none⟩ this.1⟩
theorem put_same {B x0 y0 : Nat} (h : IsSet W B x0 y0) (x y : Nat) : IsSet ((W.setCell ⟨B, 0, none⟩ (.int .u32 (x : Int))).setCell ⟨B, 1, none⟩ (.int .u32 (y : Int))) B x y :=
  ⟨(World.cell?_setCell_other _ _ _ _ (by simp)).trans (World.cell?_setCell_same _ _ _ h.1), World.cell?_setCell_same _ _ _ ((World.cell?_setCell_other _ _ _ _ (by simp)).trans h.2.1),
    by rw [World.frozen?_setCell, World.frozen?_setCell]; exact h.2.2.1, by rw [World.frozen?_setCell, World.frozen?_setCell]; exact h.2.2.2⟩
theorem put_other {B B' u v : Nat} (h : IsSet W B' u v) (hne : B ≠ B') (x y : Nat) : IsSet ((W.setCell ⟨B, 0, none⟩ (.int .u32 (x : Int))).setCell ⟨B, 1, none⟩ (.int .u32 (y : Int))) B' u v :=
  ⟨((World.cell?_setCell_other _ _ _ _ (by simp [hne])).trans (World.cell?_setCell_other _ _ _ _ (by simp [hne]))).trans h.1, ((World.cell?_setCell_other _ _ _ _ (by simp [hne])).trans (World.cell?_setCell_other _ _ _ _ (by simp [hne]))).trans h.2.1,
    by rw [World.frozen?_setCell, World.frozen?_setCell]; exact h.2.2.1, by rw [World.frozen?_setCell, World.frozen?_setCell]; exact h.2.2.2⟩
theorem EnvD.put0 {B x0 y0 : Nat} (h : EnvD w ((B, x0, y0) :: l) W) (x y : Nat) : EnvD w ((B, x, y) :: l) ((W.setCell ⟨B, 0, none⟩ (.int .u32 (x : Int))).setCell ⟨B, 1, none⟩ (.int .u32 (y : Int))) := by
  obtain ⟨⟨h1, h2⟩, h3, h4⟩ := h
  have h3' := List.pairwise_cons.1 h3
  have hB : w.heap.size ≤ B := h4 (B, x0, y0) (by simp)
  refine ⟨⟨fun z hz => ?_, (h2.setCell (p := ⟨B, 0, none⟩) hB _).setCell (p := ⟨B, 1, none⟩) hB _⟩, List.pairwise_cons.2 ⟨h3'.1, h3'.2⟩, fun z hz => ?_⟩
  · rcases List.mem_cons.1 hz with rfl | hz
    · exact put_same (h1 (B, x0, y0) (by simp)) x y
    · exact put_other (h1 z (by simp [hz])) (Nat.ne_of_gt (h3'.1 z hz)) x y
  · rcases List.mem_cons.1 hz with rfl | hz
    · exact hB
    · exact h4 z (by simp [hz])
theorem EnvD.put1 {t : Nat × Nat × Nat} {B x0 y0 : Nat} (h : EnvD w (t :: (B, x0, y0) :: l) W) (x y : Nat) : EnvD w (t :: (B, x, y) :: l) ((W.setCell ⟨B, 0, none⟩ (.int .u32 (x : Int))).setCell ⟨B, 1, none⟩ (.int .u32 (y : Int))) := by
  obtain ⟨⟨h1, h2⟩, h3, h4⟩ := h
  have h3' := List.pairwise_cons.1 h3
  have h3'' := List.pairwise_cons.1 h3'.2
  have hB : w.heap.size ≤ B := h4 (B, x0, y0) (by simp)
  have ht : B < t.1 := h3'.1 (B, x0, y0) (by simp)
  refine ⟨⟨fun z hz => ?_, (h2.setCell (p := ⟨B, 0, none⟩) hB _).setCell (p := ⟨B, 1, none⟩) hB _⟩, List.pairwise_cons.2 ⟨fun z hz => ?_, List.pairwise_cons.2 ⟨h3''.1, h3''.2⟩⟩, fun z hz => ?_⟩
  · rcases List.mem_cons.1 hz with rfl | hz
    · exact put_other (h1 z (by simp)) (Nat.ne_of_lt ht) x y
    · rcases List.mem_cons.1 hz with rfl | hz
      · exact put_same (h1 (B, x0, y0) (by simp)) x y
      · exact put_other (h1 z (by simp [hz])) (Nat.ne_of_gt (h3''.1 z hz)) x y
  · rcases List.mem_cons.1 hz with rfl | hz
    · exact ht
    · exact h3'.1 z (by simp [hz])
  · rcases List.mem_cons.1 hz with rfl | hz
    · exact h4 z (by simp)
    · rcases List.mem_cons.1 hz with rfl | hz
      · exact hB
      · exact h4 z (by simp [hz])
theorem EnvD.far0 {B : Nat} (h : EnvD w ((B, 0, 0) :: l) W) {B' x y : Nat} (hm : (B', x, y) ∈ l) : ∀ (W2 : World) (i j : Nat) (v : Value), (W2.setCell ⟨B, i, none⟩ v).cell? ⟨B', j, none⟩ = W2.cell? ⟨B', j, none⟩ := fun W2 i j v =>
  World.cell?_setCell_other _ _ _ _ (fun e => by have := (List.pairwise_cons.1 h.2.1).1 _ hm; injection e with e1; dsimp only at this; omega)
theorem EnvD.far1 {t : Nat × Nat × Nat} {B : Nat} (h : EnvD w (t :: (B, 0, 0) :: l) W) {B' x y : Nat} (hm : (B', x, y) ∈ l) : ∀ (W2 : World) (i j : Nat) (v : Value), (W2.setCell ⟨B, i, none⟩ v).cell? ⟨B', j, none⟩ = W2.cell? ⟨B', j, none⟩ := fun W2 i j v =>
  World.cell?_setCell_other _ _ _ _ (fun e => by have := (List.pairwise_cons.1 (List.pairwise_cons.1 h.2.1).2).1 _ hm; injection e with e1; dsimp only at this; omega)
theorem EnvD.far10 {B B' : Nat} (h : EnvD w ((B, 0, 0) :: (B', 0, 0) :: l) W) : (∀ (W2 : World) (i j : Nat) (v : Value), (W2.setCell ⟨B, i, none⟩ v).cell? ⟨B', j, none⟩ = W2.cell? ⟨B', j, none⟩) ∧ (∀ (W2 : World) (i j : Nat) (v : Value), (W2.setCell ⟨B', i, none⟩ v).cell? ⟨B, j, none⟩ = W2.cell? ⟨B, j, none⟩) :=
  have hlt : B' < B := (List.pairwise_cons.1 h.2.1).1 (B', 0, 0) (by simp)
  ⟨fun W2 i j v => World.cell?_setCell_other _ _ _ _ (fun e => by injection e with e1; omega), fun W2 i j v => World.cell?_setCell_other _ _ _ _ (fun e => by injection e with e1; omega)⟩
theorem EnvD.perm {l' : List (Nat × Nat × Nat)} (h : EnvD w l W) (hs : ∀ x ∈ l', x ∈ l) : EnvL w l' W := ⟨fun x hx => h.1.1 x (hs x hx), h.1.2⟩
end
theorem EnvL.six {w W : World} {B1 B2 B3 B4 B5 B6 x1 x2 x3 x4 x5 y1 y2 y3 y4 y5 : Nat} (h : EnvL w [(B6, 0, 0), (B5, x5, y5), (B4, x4, y4), (B3, x3, y3), (B2, x2, y2), (B1, x1, y1)] W) :
    W.cell? ⟨B1, 0, none⟩ = some (.int .u32 (x1 : Int)) ∧ W.cell? ⟨B1, 1, none⟩ = some (.int .u32 (y1 : Int)) ∧ W.cell? ⟨B2, 0, none⟩ = some (.int .u32 (x2 : Int)) ∧ W.cell? ⟨B2, 1, none⟩ = some (.int .u32 (y2 : Int)) ∧ W.cell? ⟨B3, 0, none⟩ = some (.int .u32 (x3 : Int)) ∧ W.cell? ⟨B3, 1, none⟩ = some (.int .u32 (y3 : Int)) ∧ W.cell? ⟨B4, 0, none⟩ = some (.int .u32 (x4 : Int)) ∧ W.cell? ⟨B4, 1, none⟩ = some (.int .u32 (y4 : Int)) ∧ W.cell? ⟨B5, 0, none⟩ = some (.int .u32 (x5 : Int)) ∧ W.cell? ⟨B5, 1, none⟩ = some (.int .u32 (y5 : Int)) ∧ W.cell? ⟨B6, 0, none⟩ = some (.int .u32 0) ∧ W.cell? ⟨B6, 1, none⟩ = some (.int .u32 0) := by
  have h1 := h.cells (B := B1) (x := x1) (y := y1) (by simp)
  have h2 := h.cells (B := B2) (x := x2) (y := y2) (by simp)
  have h3 := h.cells (B := B3) (x := x3) (y := y3) (by simp)
  have h4 := h.cells (B := B4) (x := x4) (y := y4) (by simp)
  have h5 := h.cells (B := B5) (x := x5) (y := y5) (by simp)
  have h6 := h.cells (B := B6) (x := 0) (y := 0) (by simp)
  exact ⟨h1.1, h1.2, h2.1, h2.2, h3.1, h3.2, h4.1, h4.2, h5.1, h5.2, h6.1, h6.2⟩
theorem EnvD.st {w W : World} {B0 B1 a b c d : Nat} {l : List (Nat × Nat × Nat)} (h : EnvD w l W) (h0 : (B0, a, b) ∈ l) (h1 : (B1, c, d) ∈ l) :
    W.cell? ⟨B0, 0, none⟩ = some (.int .u32 (a : Int)) ∧ W.cell? ⟨B0, 1, none⟩ = some (.int .u32 (b : Int)) ∧ W.cell? ⟨B1, 0, none⟩ = some (.int .u32 (c : Int)) ∧ W.cell? ⟨B1, 1, none⟩ = some (.int .u32 (d : Int)) :=
  ⟨(h.1.cells h0).1, (h.1.cells h0).2, (h.1.cells h1).1, (h.1.cells h1).2⟩

set_option maxRecDepth 100000 in
set_option maxHeartbeats 4000000 in
theorem parts_any (a b c d : Nat) (w : World) (ha : a < 4294967296) (hb : b < 4294967296) (hc : c < 4294967296) (hd : d < 4294967296) (hh : Here w) :
    Calls Tryd.prog 7 #[.agg #[.int .u32 (a : Int), .int .u32 (b : Int)], .agg #[.int .u32 (c : Int), .int .u32 (d : Int)]] w fun e w' => e = .returned (.bool true) ∧ Below w.heap.size w w' := by
  obtain ⟨Y, hY⟩ : ∃ Y, (w.alloc (.cells #[.int .u32 (a : Int), .int .u32 (b : Int)] 25)).alloc (.cells #[.int .u32 (c : Int), .int .u32 (d : Int)] 25) = Y := ⟨_, rfl⟩
  have hYb : Below w.heap.size w Y := by rw [← hY]; exact ((Below.refl _ _).alloc (Nat.le_refl _) _).alloc (by simp) _
  have h0 : EnvD w [(w.heap.size + 1, c, d), (w.heap.size, a, b)] Y := by
    rw [← hY]
    have h1 : EnvD w [(w.heap.size, a, b)] (w.alloc (.cells #[.int .u32 (a : Int), .int .u32 (b : Int)] 25)) := EnvD.new (l := []) ⟨⟨fun _ hx => (List.not_mem_nil hx).elim, Below.refl _ _⟩, List.Pairwise.nil, fun _ hx => (List.not_mem_nil hx).elim⟩ a b
    have := h1.new c d
    simpa only [World.size_alloc] using this
  have hhY := hh.below hYb
  obtain ⟨p0, hp0⟩ : ∃ x, a &&& c = x := ⟨_, rfl⟩
  obtain ⟨p1, hp1⟩ : ∃ x, b &&& d = x := ⟨_, rfl⟩
  obtain ⟨q0, hq0⟩ : ∃ x, a &&& (4294967295 - c) = x := ⟨_, rfl⟩
  obtain ⟨q1, hq1⟩ : ∃ x, b &&& (4294967295 - d) = x := ⟨_, rfl⟩
  obtain ⟨r0, hr0⟩ : ∃ x, c &&& (4294967295 - a) = x := ⟨_, rfl⟩
  obtain ⟨r1, hr1⟩ : ∃ x, d &&& (4294967295 - b) = x := ⟨_, rfl⟩
  obtain ⟨u0, hu0⟩ : ∃ x, a ||| c = x := ⟨_, rfl⟩
  obtain ⟨u1, hu1⟩ : ∃ x, b ||| d = x := ⟨_, rfl⟩
  have lp0 : p0 < 4294967296 := hp0 ▸ and_lt _ ha
  have lp1 : p1 < 4294967296 := hp1 ▸ and_lt _ hb
  have lq0 : q0 < 4294967296 := hq0 ▸ and_lt _ ha
  have lq1 : q1 < 4294967296 := hq1 ▸ and_lt _ hb
  have lr0 : r0 < 4294967296 := hr0 ▸ and_lt _ hc
  have lr1 : r1 < 4294967296 := hr1 ▸ and_lt _ hd
  have lu0 : u0 < 4294967296 := hu0 ▸ or_lt ha hc
  have lu1 : u1 < 4294967296 := hu1 ▸ or_lt hb hd
  have back0 := law_back a c ha hc
  have back1 := law_back b d hb hd
  have parts0 := law_parts a c ha hc
  have parts1 := law_parts b d hb hd
  have one0 := law_one a c ha hc
  have one1 := law_one b d hb hd
  have oth0 := law_other a c ha
  have oth1 := law_other b d hb
  have ap0 := law_apart a c ha hc
  have ap1 := law_apart b d hb hd
  have len := len_parts a b c d ha hb hc hd
  have swa0 : c &&& a = p0 := (Nat.and_comm _ _).trans hp0
  have swa1 : d &&& b = p1 := (Nat.and_comm _ _).trans hp1
  have swo0 : c ||| a = u0 := (Nat.or_comm _ _).trans hu0
  have swo1 : d ||| b = u1 := (Nat.or_comm _ _).trans hu1
  rw [hp0, hq0] at back0 one0
  rw [hp1, hq1] at back1 one1
  rw [hp0, hq0, hr0, hu0, back0] at parts0
  rw [hp1, hq1, hr1, hu1, back1] at parts1
  rw [hp0, hr0] at oth0
  rw [hp1, hr1] at oth1
  rw [hq0, hr0] at ap0
  rw [hq1, hr1] at ap1
  rw [hp0, hp1, hq0, hq1, hr0, hr1, hu0, hu1] at len
  have A1 := and_any a b c d
  have A2 := less_any a b c d
  have A3 := less_any c d a b
  have A4 := and_any c d a b
  have A5 := or_any a b c d
  have A6 := or_any c d a b
  have A7 := or_any p0 p1 q0 q1
  have A8 := or_any a b r0 r1
  have A9 := and_any p0 p1 q0 q1
  have A10 := and_any p0 p1 r0 r1
  have A11 := and_any q0 q1 r0 r1
  rw [hp0, hp1] at A1
  rw [hq0, hq1] at A2
  rw [hr0, hr1] at A3
  rw [swa0, swa1] at A4
  rw [hu0, hu1] at A5
  rw [swo0, swo1] at A6
  rw [back0, back1] at A7
  rw [parts0, parts1] at A8
  rw [one0, one1] at A9
  rw [oth0, oth1] at A10
  rw [ap0, ap1] at A11
  have hA := Lib.hid (And.intro A1 (And.intro A2 (And.intro A3 (And.intro A4 (And.intro A5 (And.intro A6 (And.intro A7 (And.intro A8 (And.intro A9 (And.intro A10 A11))))))))))
  clear hp0 hp1 hq0 hq1 hr0 hr1 hu0 hu1 back0 back1 parts0 parts1 one0 one1 oth0 oth1 ap0 ap1 swa0 swa1 swo0 swo1 A1 A2 A3 A4 A5 A6 A7 A8 A9 A10 A11
  have lenp := length_memI p0 p1
  have lenq := length_memI q0 q1
  have lenr := length_memI r0 r1
  have L1 := len_any p0 p1
  have L2 := len_any q0 q1
  have L3 := len_any r0 r1
  have L4 := len_any u0 u1
  rw [← len] at L4
  obtain ⟨np, hnp⟩ : ∃ n, (memI p0 p1).length = n := ⟨_, rfl⟩
  obtain ⟨nq, hnq⟩ : ∃ n, (memI q0 q1).length = n := ⟨_, rfl⟩
  obtain ⟨nr, hnr⟩ : ∃ n, (memI r0 r1).length = n := ⟨_, rfl⟩
  rw [hnp] at lenp L1 L4
  rw [hnq] at lenq L2 L4
  rw [hnr] at lenr L3 L4
  obtain ⟨nk, hnk⟩ : ∃ n, np + nq + nr = n := ⟨_, rfl⟩
  obtain ⟨nm, hnm⟩ : ∃ n, np + nq = n := ⟨_, rfl⟩
  rw [hnk] at L4
  have E1 := Lib.hid (show IntKind.i64.wrap ((np : Int) + (nq : Int)) = (nm : Int) by rw [IntWalk.i64_in _ (by omega)]; omega)
  have E2 := Lib.hid (show IntKind.i64.wrap ((nm : Int) + (nr : Int)) = (nk : Int) by rw [IntWalk.i64_in _ (by omega)]; omega)
  clear hnk hnm
  have hL := Lib.hid (And.intro L1 (And.intro L2 (And.intro L3 L4)))
  clear hnp hnq hnr len L1 L2 L3 L4
  have eqU := eq_self (u0 : Int) (u1 : Int)
  have eqP := eq_self (p0 : Int) (p1 : Int)
  have eqS := eq_self (a : Int) (b : Int)
  have eqN := eq_self 0 0
  go_enter Tryd.func7, Tryd.ntmps7
  go_wp2_with fail

  clear hY hYb hh
  refine (alive_any _ hhY).mono ?_
  rintro e w1 ⟨rfl, hb1⟩
  have h1 := h0.below hb1
  clear h0 hb1 hhY
  obtain ⟨s0, s1, t0, t1⟩ := h1.st (B0 := w.heap.size) (B1 := w.heap.size + 1) (a := a) (b := b) (c := c) (d := d) (by simp) (by simp)
  go_wp2_with fail
  refine (hA.out.1 _ ha hb hc hd).mono ?_
  rintro e w2 ⟨rfl, hb2⟩
  have h2 := (h1.below hb2).new p0 p1
  clear h1 hb2 s0 s1 t0 t1
  have H2 := Lib.hid h2
  clear h2
  go_upto_region 3 with fail
  go_cut [7, 8] (fun s7 s8 wx => ∃ B3 B4 : Nat, s7 = .pointer (some ⟨B3, 0, none⟩) ∧ s8 = .pointer (some ⟨B4, 0, none⟩) ∧ EnvL w [(B4, r0, r1), (B3, q0, q1), (w2.heap.size, p0, p1), (w.heap.size + 1, c, d), (w.heap.size, a, b)] wx)
  case first =>
    have hE := H2.out
    clear H2
    obtain ⟨s0, s1, s2, s3⟩ := hE.st (B0 := w.heap.size) (B1 := w.heap.size + 1) (a := a) (b := b) (c := c) (d := d) (by simp) (by simp)
    go_region_held3 (fun W => W.cell? ⟨w.heap.size, 0, none⟩ = some (.int .u32 (a : Int)) ∧ W.cell? ⟨w.heap.size, 1, none⟩ = some (.int .u32 (b : Int)) ∧ W.cell? ⟨w.heap.size + 1, 0, none⟩ = some (.int .u32 (c : Int)) ∧ W.cell? ⟨w.heap.size + 1, 1, none⟩ = some (.int .u32 (d : Int)))
      (go_keep)
      (first
        | (go_at_call_of 30 #[Value.agg #[.int .u32 (a : Int), .int .u32 (b : Int)], Value.agg #[.int .u32 (c : Int), .int .u32 (d : Int)]]; refine (hA.out.2.1 _ ha hb hc hd).mono ?_; rintro e w' ⟨rfl, hbx⟩; (first | (with_reducible have hE := hE.drew.below hbx) | (with_reducible have hE := hE.zero.drew.below hbx) | (with_reducible have hE := hE.zero.zero.drew.below hbx) | (with_reducible have hE := hE.below hbx) | (with_reducible have hE := hE.zero.below hbx) | (with_reducible have hE := hE.zero.zero.below hbx)); obtain ⟨s0, s1, s2, s3⟩ := hE.st (B0 := w.heap.size) (B1 := w.heap.size + 1) (a := a) (b := b) (c := c) (d := d) (by simp) (by simp); try (have hz := hE.head0; (try simp only [World.size_alloc] at hz); obtain ⟨z0, z1, z2, z3, z4⟩ := hz; have g0 := hE.far0 (B' := w.heap.size) (x := a) (y := b) (by simp); have g1 := hE.far0 (B' := w.heap.size + 1) (x := c) (y := d) (by simp); (try simp only [World.size_alloc] at g0 g1)); try (have hy := hE.head1; (try simp only [World.size_alloc] at hy); obtain ⟨y0, y1, y2, y3, y4⟩ := hy; have k0 := hE.far1 (B' := w.heap.size) (x := a) (y := b) (by simp); have k1 := hE.far1 (B' := w.heap.size + 1) (x := c) (y := d) (by simp); have k2 := hE.far10; (try simp only [World.size_alloc] at k0 k1 k2); obtain ⟨k3, k4⟩ := k2))
        | (go_at_call_of 30 #[Value.agg #[.int .u32 (c : Int), .int .u32 (d : Int)], Value.agg #[.int .u32 (a : Int), .int .u32 (b : Int)]]; refine (hA.out.2.2.1 _ hc hd ha hb).mono ?_; rintro e w' ⟨rfl, hbx⟩; (first | (with_reducible have hE := hE.drew.below hbx) | (with_reducible have hE := hE.zero.drew.below hbx) | (with_reducible have hE := hE.zero.zero.drew.below hbx) | (with_reducible have hE := hE.below hbx) | (with_reducible have hE := hE.zero.below hbx) | (with_reducible have hE := hE.zero.zero.below hbx)); obtain ⟨s0, s1, s2, s3⟩ := hE.st (B0 := w.heap.size) (B1 := w.heap.size + 1) (a := a) (b := b) (c := c) (d := d) (by simp) (by simp); try (have hz := hE.head0; (try simp only [World.size_alloc] at hz); obtain ⟨z0, z1, z2, z3, z4⟩ := hz; have g0 := hE.far0 (B' := w.heap.size) (x := a) (y := b) (by simp); have g1 := hE.far0 (B' := w.heap.size + 1) (x := c) (y := d) (by simp); (try simp only [World.size_alloc] at g0 g1)); try (have hy := hE.head1; (try simp only [World.size_alloc] at hy); obtain ⟨y0, y1, y2, y3, y4⟩ := hy; have k0 := hE.far1 (B' := w.heap.size) (x := a) (y := b) (by simp); have k1 := hE.far1 (B' := w.heap.size + 1) (x := c) (y := d) (by simp); have k2 := hE.far10; (try simp only [World.size_alloc] at k0 k1 k2); obtain ⟨k3, k4⟩ := k2)))
    all_goals go_wp2_with fail
    · go_meet
      case rel =>
        have t := (hE.new q0 q1).new r0 r1
        simp only [World.size_alloc, World.size_setCell] at t
        exact ⟨_, _, rfl, rfl, t.perm (by simp)⟩
    · go_meet
      case rel =>
        have t := (hE.new r0 r1).new q0 q1
        simp only [World.size_alloc, World.size_setCell] at t
        exact ⟨_, _, rfl, rfl, t.perm (by simp)⟩
    · go_meet
      case rel =>
        have t := (hE.put0 q0 q1).new r0 r1
        simp only [World.size_alloc, World.size_setCell] at t
        exact ⟨_, _, rfl, rfl, t.perm (by simp)⟩
    · go_meet
      case rel =>
        have t := (hE.put1 q0 q1).put0 r0 r1
        simp only [World.size_alloc, World.size_setCell] at t
        exact ⟨_, _, rfl, rfl, t.perm (by simp)⟩
    · go_meet
      case rel =>
        have t := (hE.put0 r0 r1).new q0 q1
        simp only [World.size_alloc, World.size_setCell] at t
        exact ⟨_, _, rfl, rfl, t.perm (by simp)⟩
    · go_meet
      case rel =>
        have t := (hE.put0 q0 q1).put1 r0 r1
        simp only [World.size_alloc, World.size_setCell] at t
        exact ⟨_, _, rfl, rfl, t.perm (by simp)⟩
    · go_meet
      case rel =>
        have t := (hE.put0 q0 q1).new r0 r1
        simp only [World.size_alloc, World.size_setCell] at t
        exact ⟨_, _, rfl, rfl, t.perm (by simp)⟩
    · go_meet
      case rel =>
        have t := (hE.put1 q0 q1).put0 r0 r1
        simp only [World.size_alloc, World.size_setCell] at t
        exact ⟨_, _, rfl, rfl, t.perm (by simp)⟩
    · go_meet
      case rel =>
        have t := (hE.put1 q0 q1).put0 r0 r1
        simp only [World.size_alloc, World.size_setCell] at t
        exact ⟨_, _, rfl, rfl, t.perm (by simp)⟩
    · go_meet
      case rel =>
        have t := (hE.put0 r0 r1).new q0 q1
        simp only [World.size_alloc, World.size_setCell] at t
        exact ⟨_, _, rfl, rfl, t.perm (by simp)⟩
    · go_meet
      case rel =>
        have t := (hE.put0 q0 q1).put1 r0 r1
        simp only [World.size_alloc, World.size_setCell] at t
        exact ⟨_, _, rfl, rfl, t.perm (by simp)⟩
    · go_meet
      case rel =>
        have t := (hE.put0 q0 q1).put1 r0 r1
        simp only [World.size_alloc, World.size_setCell] at t
        exact ⟨_, _, rfl, rfl, t.perm (by simp)⟩
  case rest =>
    obtain ⟨B3, B4, rfl, rfl, hE⟩ := hcut
    clear H2
    have hE0 := Lib.hid (hE.new 0 0)
    clear hE
    go_wp2_with fail
    have hE := hE0.out.drew
    have eqS1 := E1.out
    have eqS2 := E2.out
    clear hE0
    simp only [List.append]
    go_region_held3 (fun W => W.cell? ⟨w.heap.size, 0, none⟩ = some (.int .u32 (a : Int)) ∧ W.cell? ⟨w.heap.size, 1, none⟩ = some (.int .u32 (b : Int)) ∧ W.cell? ⟨w.heap.size + 1, 0, none⟩ = some (.int .u32 (c : Int)) ∧ W.cell? ⟨w.heap.size + 1, 1, none⟩ = some (.int .u32 (d : Int)) ∧ W.cell? ⟨w2.heap.size, 0, none⟩ = some (.int .u32 (p0 : Int)) ∧ W.cell? ⟨w2.heap.size, 1, none⟩ = some (.int .u32 (p1 : Int)) ∧ W.cell? ⟨B3, 0, none⟩ = some (.int .u32 (q0 : Int)) ∧ W.cell? ⟨B3, 1, none⟩ = some (.int .u32 (q1 : Int)) ∧ W.cell? ⟨B4, 0, none⟩ = some (.int .u32 (r0 : Int)) ∧ W.cell? ⟨B4, 1, none⟩ = some (.int .u32 (r1 : Int)) ∧ W.cell? ⟨wc.heap.size, 0, none⟩ = some (.int .u32 0) ∧ W.cell? ⟨wc.heap.size, 1, none⟩ = some (.int .u32 0))
      (exact hE.six)
      (first
        | (go_at_call_of 31 #[Value.agg #[.int .u32 (p0 : Int), .int .u32 (p1 : Int)], Value.agg #[.int .u32 (q0 : Int), .int .u32 (q1 : Int)]]; refine (hA.out.2.2.2.2.2.2.1 _ lp0 lp1 lq0 lq1).mono ?_; rintro e w' ⟨rfl, hbx⟩; have hE := hE.below hbx)
        | (go_at_call_of 31 #[Value.agg #[.int .u32 (a : Int), .int .u32 (b : Int)], Value.agg #[.int .u32 (r0 : Int), .int .u32 (r1 : Int)]]; refine (hA.out.2.2.2.2.2.2.2.1 _ ha hb lr0 lr1).mono ?_; rintro e w' ⟨rfl, hbx⟩; have hE := hE.below hbx)
        | (go_at_call_of 31 #[Value.agg #[.int .u32 (a : Int), .int .u32 (b : Int)], Value.agg #[.int .u32 (c : Int), .int .u32 (d : Int)]]; refine (hA.out.2.2.2.2.1 _ ha hb hc hd).mono ?_; rintro e w' ⟨rfl, hbx⟩; have hE := hE.below hbx)
        | (go_at_call_of 31 #[Value.agg #[.int .u32 (c : Int), .int .u32 (d : Int)], Value.agg #[.int .u32 (a : Int), .int .u32 (b : Int)]]; refine (hA.out.2.2.2.2.2.1 _ hc hd ha hb).mono ?_; rintro e w' ⟨rfl, hbx⟩; have hE := hE.below hbx)
        | (go_at_call_of 29 #[Value.agg #[.int .u32 (p0 : Int), .int .u32 (p1 : Int)], Value.agg #[.int .u32 (q0 : Int), .int .u32 (q1 : Int)]]; refine (hA.out.2.2.2.2.2.2.2.2.1 _ lp0 lp1 lq0 lq1).mono ?_; rintro e w' ⟨rfl, hbx⟩; have hE := hE.below hbx)
        | (go_at_call_of 29 #[Value.agg #[.int .u32 (p0 : Int), .int .u32 (p1 : Int)], Value.agg #[.int .u32 (r0 : Int), .int .u32 (r1 : Int)]]; refine (hA.out.2.2.2.2.2.2.2.2.2.1 _ lp0 lp1 lr0 lr1).mono ?_; rintro e w' ⟨rfl, hbx⟩; have hE := hE.below hbx)
        | (go_at_call_of 29 #[Value.agg #[.int .u32 (q0 : Int), .int .u32 (q1 : Int)], Value.agg #[.int .u32 (r0 : Int), .int .u32 (r1 : Int)]]; refine (hA.out.2.2.2.2.2.2.2.2.2.2 _ lq0 lq1 lr0 lr1).mono ?_; rintro e w' ⟨rfl, hbx⟩; have hE := hE.below hbx)
        | (go_at_call_of 29 #[Value.agg #[.int .u32 (c : Int), .int .u32 (d : Int)], Value.agg #[.int .u32 (a : Int), .int .u32 (b : Int)]]; refine (hA.out.2.2.2.1 _ hc hd ha hb).mono ?_; rintro e w' ⟨rfl, hbx⟩; have hE := hE.below hbx)
        | (go_at_call_of 19 (Value.agg #[.int .u32 (p0 : Int), .int .u32 (p1 : Int)]); refine (hL.out.1 _ lp0 lp1).mono ?_; rintro e w' ⟨rfl, hbx⟩; have hE := hE.below hbx)
        | (go_at_call_of 19 (Value.agg #[.int .u32 (q0 : Int), .int .u32 (q1 : Int)]); refine (hL.out.2.1 _ lq0 lq1).mono ?_; rintro e w' ⟨rfl, hbx⟩; have hE := hE.below hbx)
        | (go_at_call_of 19 (Value.agg #[.int .u32 (r0 : Int), .int .u32 (r1 : Int)]); refine (hL.out.2.2.1 _ lr0 lr1).mono ?_; rintro e w' ⟨rfl, hbx⟩; have hE := hE.below hbx)
        | (go_at_call_of 19 (Value.agg #[.int .u32 (u0 : Int), .int .u32 (u1 : Int)]); refine (hL.out.2.2.2 _ lu0 lu1).mono ?_; rintro e w' ⟨rfl, hbx⟩; have hE := hE.below hbx))
    go_wp2_with fail
    go_ret
    exact ⟨rfl, hE.2⟩
end Go.Proofs.YtnefjlglhnkbfaaDoor
