/-
  The reference's Cut.
-/
import Derived.Test.YtncdohbdmpfefaaCoRef
namespace Go.Proofs.Ytncdohbdmpfefaa
open Go.RowKit Go.Maps Go.ChangeMaps Go.Shelf Go.Sort

theorem er_step {α : Type} {l : List α} {k j : Nat} {x : α} (h : l[k]? = some x) : (l.take (k + 1)).eraseIdx j = (l.take k).eraseIdx j ++ (if k = j then [] else [x]) := by
  have hk := (List.getElem?_eq_some_iff.1 h).1
  have hl : (l.take k).length = k := by rw [List.length_take]; omega
  rw [List.take_add_one, h]
  show (l.take k ++ [x]).eraseIdx j = _
  by_cases h1 : j < k
  · rw [List.eraseIdx_append_of_lt_length (by omega), if_neg (by omega)]
  · rw [List.eraseIdx_append_of_length_le (by omega), List.eraseIdx_of_length_le (l := l.take k) (by omega), hl]
    by_cases h2 : k = j
    · subst h2; simp
    · rw [if_neg h2, List.eraseIdx_of_length_le (by simp; omega)]

/-- While Cut collects. -/
structure CutI (w wr : World) (B r : Nat) (vl vq vc : Value) (X : List It) (Q T : List Int) (nx : Int) (P : List It) (P2 : List Int) (u u2 : Value) : Prop where
  R : RS wr B r vl vq vc X Q T nx
  old : ∀ k, RO r vl vq vc k → k < w.heap.size
  b : Below w.heap.size w wr
  O : rowI.own wr w.heap.size u P
  O2 : rowN.own wr w.heap.size u2 P2
  ap : ∀ i, u.ownBlock = some i → u2.ownBlock ≠ some i
section
variable {w wr w1 : World} {B r : Nat} {vl vq vc u u2 u1 : Value} {X P P' : List It} {Q T P2 P2' : List Int} {nx : Int} {o : Obj}
theorem CutI.app1 (h : CutI w wr B r vl vq vc X Q T nx P P2 u u2) (hg : (wr.alloc o).grownBy w1 u.ownBlock) (O1 : rowI.own w1 w.heap.size u1 P') (ho : u1.ownBlock = u.ownBlock ∨ u1.ownBlock = some (wr.alloc o).heap.size) :
    CutI w w1 B r vl vq vc X Q T nx P' P2 u1 u2 := by
  refine ⟨h.R.same fun k hk => RowK.grown_far hg (h.R.lt hk).1 (fun e => by have := (RowK.own_lt h.O e).2; have := h.old k hk; omega), h.old,
    (h.b.alloc h.b.size o).grown hg (by have := h.b.size; simp; omega) (fun k e => (RowK.own_lt h.O e).2), O1, RowK.own_same h.O2 fun k e => RowK.grown_far hg (RowK.own_lt h.O2 e).1 (fun e2 => h.ap k e2 e), fun i e e2 => ?_⟩
  rcases ho with h1 | h1
  · exact h.ap i (h1 ▸ e) e2
  · rw [h1] at e
    have := (RowK.own_lt h.O2 e2).1
    simp at e; omega
theorem CutI.app2 (h : CutI w wr B r vl vq vc X Q T nx P P2 u u2) (hg : (wr.alloc o).grownBy w1 u2.ownBlock) (O1 : rowN.own w1 w.heap.size u1 P2') (ho : u1.ownBlock = u2.ownBlock ∨ u1.ownBlock = some (wr.alloc o).heap.size) :
    CutI w w1 B r vl vq vc X Q T nx P P2' u u1 := by
  refine ⟨h.R.same fun k hk => RowK.grown_far hg (h.R.lt hk).1 (fun e => by have := (RowK.own_lt h.O2 e).2; have := h.old k hk; omega), h.old,
    (h.b.alloc h.b.size o).grown hg (by have := h.b.size; simp; omega) (fun k e => (RowK.own_lt h.O2 e).2), RowK.own_same h.O fun k e => RowK.grown_far hg (RowK.own_lt h.O e).1 (fun e2 => h.ap k e e2), O1, fun i e e2 => ?_⟩
  rcases ho with h1 | h1
  · exact h.ap i e (h1 ▸ e2)
  · rw [h1] at e2
    have := (RowK.own_lt h.O e).1
    simp at e2; omega
theorem CutI.cells (h : CutI w wr B r vl vq vc X Q T nx P P2 u u2) : wr.cell? ⟨r, 0, none⟩ = some vl ∧ wr.cell? ⟨r, 1, none⟩ = some vq ∧ r < wr.heap.size ∧ wr.frozen? ⟨r, 0, none⟩ = false ∧ wr.frozen? ⟨r, 1, none⟩ = false := ⟨h.R.blk.cell 0, h.R.blk.cell 1, h.R.blk.lt, h.R.blk.frozen 0, h.R.blk.frozen 1⟩
theorem RS.cellQ {g c k n : Nat} {q : Int} (R : RS wr B r vl (.slice (some ⟨g, 0, none⟩) n c) vc X Q T nx) (hq : Q[k]? = some q) : wr.cell? ⟨g, k, none⟩ = some (.int .i64 q) ∧ g < wr.heap.size := by
  rcases RowK.own_form R.rq with ⟨e, _⟩ | ⟨g', c', e, _, hg, _, hl⟩
  · cases e
  · obtain rfl : g = g' := by injection e with e1; injection e1 with e1; injection e1
    exact ⟨rowN_cell hl hq, hg⟩
theorem RS.cellX {g c k n : Nat} {x : It} (R : RS wr B r (.slice (some ⟨g, 0, none⟩) n c) vq vc X Q T nx) (hx : X[k]? = some x) : wr.cell? ⟨g, k * 3, none⟩ = some (.int .i64 x.id) ∧ wr.cell? ⟨g, k * 3 + 1, none⟩ = some (.int .u64 x.d) ∧ wr.cell? ⟨g, k * 3 + 2, none⟩ = some (.int .u64 x.n) ∧ g < wr.heap.size := by
  rcases RowK.own_form R.rl with ⟨e, _⟩ | ⟨g', c', e, _, hg, _, hl⟩
  · cases e
  · obtain rfl : g = g' := by injection e with e1; injection e1 with e1; injection e1
    obtain ⟨a, b, c⟩ := rowI_cells hl hx
    exact ⟨a, b, c, hg⟩
theorem RS.cellC {g c k n : Nat} {x : Int} (R : RS wr B r vl vq (.slice (some ⟨g, 0, none⟩) n c) X Q T nx) (hx : T[k]? = some x) : wr.cell? ⟨g, k, none⟩ = some (.int .u64 x) ∧ g < wr.heap.size := by
  rcases RowK.own_form R.rc with ⟨e, _⟩ | ⟨g', c', e, _, hg, _, hl⟩
  · cases e
  · obtain rfl : g = g' := by injection e with e1; injection e1 with e1; injection e1
    exact ⟨rowC_cell hl hx, hg⟩
theorem CutI.done (h : CutI w wr B r vl vq vc X Q T nx P P2 u u2) (R0 : RS w B r vl vq vc X Q T nx) : RS ((wr.setCell ⟨r, 0, none⟩ u).setCell ⟨r, 1, none⟩ u2) B r u u2 vc P P2 T nx ∧ Mv w ((wr.setCell ⟨r, 0, none⟩ u).setCell ⟨r, 1, none⟩ u2) (RO r vl vq vc) (RO r u u2 vc) := R0.anew h.b h.O h.O2 h.ap
end

set_option maxHeartbeats 8000000 in
set_option maxRecDepth 100000 in
theorem rcut_yes {w : World} {B r : Nat} {vl vq vc : Value} {X : List It} {Q T : List Int} {nx : Int} (R : RS w B r vl vq vc X Q T nx) (hlen : X.length ≤ 1000) (hq : Q.length = X.length) (hu : Uniq X) {j : Nat} {x : It} (hx : X[j]? = some x) :
    Calls Try.prog 13 #[.pointer (some ⟨r, 0, none⟩), .int .i64 x.id] w fun e w' =>
      e = .returned (.bool true) ∧ ∃ u u2, RS w' B r u u2 vc (X.eraseIdx j) (Q.eraseIdx j) T nx ∧ Mv w w' (RO r vl vq vc) (RO r u u2 vc) := by
  have hjl := (List.getElem?_eq_some_iff.1 hx).1
  have HF := Lib.hid (cfind_some R hlen hu hx)
  have H0 := Lib.hid (show CutI w w B r vl vq vc X Q T nx ((X.take 0).eraseIdx j) ((Q.take 0).eraseIdx j) (.slice none 0 0) (.slice none 0 0) from ⟨R, fun k hk => (R.lt hk).1, Below.refl _ _, by simpa using RowK.own_nil _ _, by simpa using RowK.own_nil _ _, fun i e => by cases e⟩)
  have hj0 : ¬ (j : Int) < 0 := by omega
  rcases RowK.own_form R.rl with ⟨_, rfl⟩ | ⟨g, c, rfl, hc, hg, _, hl⟩
  · simp at hjl
  rcases RowK.own_form R.rq with ⟨_, rfl⟩ | ⟨gq, cq, rfl, hcq, hgq, _, hlq⟩
  · simp at hq; omega
  have HR := Lib.hid R
  clear R hu hx hl hlq
  go_enter Try.func13, Try.ntmps13
  go_wp2_with fail
  refine HF.out.mono ?_
  rintro e w1 ⟨rfl, rfl⟩
  go_wp2_with fail
  go_loopw [6, 7, 8] (fun u u2 i wr => ∃ k : Nat, i = .int .i64 (k : Int) ∧ k ≤ X.length ∧ CutI w wr B r (.slice (some ⟨g, 0, none⟩) X.length c) (.slice (some ⟨gq, 0, none⟩) Q.length cq) vc X Q T nx ((X.take k).eraseIdx j) ((Q.take k).eraseIdx j) u u2) (fun _ _ i _ => X.length - (intOf i).toNat)
  case atStart => exact ⟨0, rfl, Nat.zero_le _, H0.out⟩
  case round =>
    obtain ⟨k, rfl, hk, G⟩ := hrel
    obtain ⟨Au, nu, cu, hu⟩ := RowK.own_slice G.O
    obtain ⟨Aq, nq, cq2, hu2⟩ := RowK.own_slice G.O2
    subst hu; subst hu2
    have c0 := G.R.blk.cell 0
    have c1 := G.R.blk.cell 1
    have rl := G.R.blk.lt
    simp at c0 c1
    have HG := Lib.hid G
    by_cases hkl : k < X.length
    · obtain ⟨y, hy⟩ : ∃ y, X[k]? = some y := ⟨_, List.getElem?_eq_getElem hkl⟩
      obtain ⟨q, hqk⟩ : ∃ q, Q[k]? = some q := ⟨_, List.getElem?_eq_getElem (by omega)⟩
      have b0 : (0 : Int) ≤ (k : Int) := by omega
      have b1 : (k : Int) < (X.length : Int) := by omega
      have e1 := er_step (j := j) hy
      have e2 := er_step (j := j) hqk
      by_cases hkj : k = j
      · rw [if_pos hkj, List.append_nil] at e1 e2
        have HE := Lib.hid (And.intro e1 e2)
        have f1 : (k != j) = false := by simpa using hkj
        subst hkj
        clear G hy hqk e1 e2
        go_wp2_with fail
        go_roundw
        case rel => exact ⟨k + 1, by go_num, by omega, by rw [HE.out.1, HE.out.2]; exact HG.out⟩
        case measure => simp [intOf]; omega
      · rw [if_neg hkj] at e1 e2
        have HE := Lib.hid (And.intro e1 e2)
        have hne : ¬ (k : Int) = (j : Int) := by omega
        obtain ⟨y0, y1, y2, hg'⟩ := G.R.cellX hy
        have hsm : ((X.take k).eraseIdx j).length + 1 ≤ 100000000 ∧ ((Q.take k).eraseIdx j).length + 1 ≤ 100000000 := by
          have h1 := List.length_eraseIdx_le (X.take k) j
          have h2 := List.length_eraseIdx_le (Q.take k) j
          rw [List.length_take] at h1 h2
          constructor <;> omega
        have HS := Lib.hid hsm
        have b2 : (k : Int) < (Q.length : Int) := by omega
        have HQ := Lib.hid hqk
        clear G hy hqk e1 e2 hsm
        go_wp2_with (first
          | (at_builtin; refine RowK.append (R := rowI) rfl _ _ rfl w.heap.size _ _ [y] rfl (RowK.own_alloc HG.out.O _) _ 1 1 rfl rfl (RowK.new_shows (R := rowI) wr y _) (fun e => by cases e) (by have := HS.out.1; simpa using this) (by have := HG.out.b.size; simp; omega) ?_; intro u1 w1 O1 hg1 ho1; have HI := Lib.hid (HG.out.app1 hg1 O1 ho1); obtain ⟨A2, n2, c2, hu1⟩ := RowK.own_slice O1; subst hu1; obtain ⟨-, d1, dl, -, -⟩ := HI.out.cells; obtain ⟨q0, gql⟩ := HI.out.R.cellQ HQ.out; clear O1 hg1 ho1 c0 c1 rl)
          | (at_builtin; refine RowK.append (R := rowN) rfl _ _ rfl w.heap.size _ _ [q] rfl (RowK.own_alloc HI.out.O2 _) _ 1 1 rfl rfl (RowK.new_shows (R := rowN) w1 q _) (fun e => by cases e) (by have := HS.out.2; simpa using this) (by have := HI.out.b.size; simp; omega) ?_; intro u2 w2 O2 hg2 ho2; have HJ := Lib.hid (HI.out.app2 hg2 O2 ho2); obtain ⟨A3, n3, c3, hu2⟩ := RowK.own_slice O2; subst hu2; clear O2 hg2 ho2 d1 dl q0 gql)
          | fail)
        go_roundw
        case rel => exact ⟨k + 1, by go_num, by omega, by rw [HE.out.1, HE.out.2]; exact HJ.out⟩
        case measure => simp [intOf]; omega
    · obtain rfl : k = X.length := by omega
      have e1 : X.take X.length = X := List.take_length
      have e2 : Q.take X.length = Q := by rw [← hq]; exact List.take_length
      rw [e1, e2] at HG
      obtain ⟨-, -, -, f0, f1⟩ := HG.out.cells
      have HD := Lib.hid (HG.out.done HR.out)
      have f2 : ∀ v, (wr.setCell ⟨r, 0, none⟩ v).frozen? ⟨r, 1, none⟩ = false := fun v => (HG.out.R.blk.set_ 0 v).frozen 1
      have c2 : ∀ v, (wr.setCell ⟨r, 0, none⟩ v).cell? ⟨r, 1, none⟩ = some (.slice (some ⟨gq, 0, none⟩) Q.length cq) := fun v => by have := (HG.out.R.blk.set_ 0 v).cell 1; simpa using this
      clear e1 e2 G
      go_wp2_with fail
      go_ret
      exact ⟨rfl, _, _, HD.out.1, HD.out.2⟩
theorem rcut_no {w : World} {B r : Nat} {vl vq vc : Value} {X : List It} {Q T : List Int} {nx : Int} (R : RS w B r vl vq vc X Q T nx) (hlen : X.length ≤ 1000) {id : Int} (hid : ∀ y ∈ X, y.id ≠ id) :
    Calls Try.prog 13 #[.pointer (some ⟨r, 0, none⟩), .int .i64 id] w fun e w' => e = .returned (.bool false) ∧ w = w' := by
  have HF := Lib.hid (cfind_no R hlen hid)
  clear R hid
  go_enter Try.func13, Try.ntmps13
  go_wp2_with fail
  refine HF.out.mono ?_
  rintro e w1 ⟨rfl, rfl⟩
  go_wp2_with fail
  go_ret
  exact ⟨rfl, rfl⟩

/-- The reference's set, by what it has. -/
def RefQ (B r : Nat) (L : List En) (T : List Int) (nx : Int) (W : World) (O : Nat → Prop) : Prop := ∃ vl vq vc, RS W B r vl vq vc (xs L) (qs L T) T nx ∧ ∀ i, O i ↔ RO r vl vq vc i
theorem refQ_stable (B r : Nat) (L : List En) (T : List Int) (nx : Int) : Stable (RefQ B r L T nx) := fun W W' O h e _ => by
  obtain ⟨vl, vq, vc, R, ho⟩ := h
  exact ⟨vl, vq, vc, R.same fun k hk => e k ((ho k).2 hk), ho⟩
theorem Mv.iff {a b : World} {O P O' : Nat → Prop} (h : Mv a b O O') (h1 : ∀ i, P i ↔ O i) : Mv a b P O' := ⟨h.k.mono fun i _ e => (h1 i).2 e, fun i e => (h.o i e).imp (h1 i).2 id⟩
theorem cutL_erase {L : List En} (hn : (L.map fun e => e.x.id).Nodup) {j : Nat} {e : En} (he : L[j]? = some e) : L.eraseIdx j = cutL e.x.id L := by
  obtain ⟨hj, ey⟩ := List.getElem?_eq_some_iff.1 he
  have e1 : L = L.take j ++ e :: L.drop (j + 1) := by rw [← ey, List.getElem_cons_drop, List.take_append_drop]
  rw [List.eraseIdx_eq_take_drop_succ]
  conv => rhs; rw [e1]
  rw [e1] at hn
  rw [cutL_split hn]
theorem map_erase {α β : Type} (f : α → β) : ∀ (l : List α) (j : Nat), (l.eraseIdx j).map f = (l.map f).eraseIdx j
  | [], j => by simp
  | x :: l, 0 => by simp
  | x :: l, j + 1 => by simp [map_erase f l j]
theorem qs_len {L : List En} {T : List Int} : (qs L T).length = L.length := by simp [qs]
theorem rcut_any {W : World} {B r : Nat} {L : List En} {T : List Int} {nx : Int} {O : Nat → Prop} (H : RefQ B r L T nx W O) (hn : (L.map fun e => e.x.id).Nodup) (hlen : L.length ≤ 1000) (id : Int) :
    Calls Try.prog 13 #[.pointer (some ⟨r, 0, none⟩), .int .i64 id] W fun e W' => e = .returned (.bool (hasI L id)) ∧ ∃ O', RefQ B r (cutL id L) T nx W' O' ∧ Mv W W' O O' := by
  obtain ⟨vl, vq, vc, R, ho⟩ := H
  have hX : (xs L).length ≤ 1000 := by rw [xs_len]; exact hlen
  cases hh : hasI L id with
  | false =>
    rw [cutL_none hh]
    refine (rcut_no R hX (id := id) fun y hy => ?_).mono ?_
    · obtain ⟨e, he, rfl⟩ := List.mem_map.1 hy
      exact hasI_false.1 hh e he
    · rintro e w' ⟨rfl, rfl⟩
      exact ⟨rfl, O, ⟨vl, vq, vc, R, ho⟩, Mv.of_kept (Kept.refl _ _)⟩
  | true =>
    obtain ⟨e, he, hid⟩ := hasI_true.1 hh
    obtain ⟨j, hj⟩ := List.mem_iff_getElem?.1 he
    have hx : (xs L)[j]? = some e.x := by unfold xs; rw [List.getElem?_map, hj]; rfl
    have hu : Uniq (xs L) := by unfold Uniq xs; rw [List.map_map]; exact hn
    have := rcut_yes R hX (by rw [qs_len, xs_len]) hu hx
    rw [hid] at this
    refine this.mono ?_
    rintro e' w' ⟨rfl, u, u2, R', hm⟩
    have e1 : (xs L).eraseIdx j = xs (cutL id L) := by rw [← hid, ← cutL_erase hn hj]; exact (map_erase _ L j).symm
    have e2 : (qs L T).eraseIdx j = qs (cutL id L) T := by rw [← hid, ← cutL_erase hn hj]; exact (map_erase _ L j).symm
    rw [e1, e2] at R'
    exact ⟨rfl, RO r u u2 vc, ⟨u, u2, vc, R', fun i => Iff.rfl⟩, hm.iff ho⟩
end Go.Proofs.Ytncdohbdmpfefaa
