/-
  The reference's Has, Cut and Move.
-/
import Derived.Test.YtlkmmbondelheaaPrRef2
import Derived.Deep.AppendLies
import Derived.Deep.RegionLaw
namespace Go.Proofs.Ytlkmmbondelheaa
open Go.RowKit Go.Maps Go.ChangeMaps Go.Shelf

theorem rhas_any {w : World} {B r many : Nat} {v : Value} {L : List It} (R : Rf w B r many v L) (hlen : L.length ≤ 1000) (hu : (L.map (·.id)).Nodup) (k : Int) :
    Calls Try.prog 20 #[.pointer (some ⟨r, 0, none⟩), .int .i64 k] w fun e w' =>
      e = .returned (.tuple #[.agg #[.int .i64 (hasX L k).id, .int .i64 (hasX L k).fl, .int .i64 (hasX L k).ct, .int .i64 ((hasX L k).pr : Int)], .bool (hasI L k)]) ∧ Below w.heap.size w w' := by
  cases hh : hasI L k with
  | false =>
    rw [hasX_none hh]
    have hP := Lib.hid (fun o => rfind_no (R.alloc o) hlen hh)
    clear R hu hh
    go_enter Try.func20, Try.ntmps20
    go_wp2_with fail
    refine (hP.out _).mono ?_
    rintro e w1 ⟨rfl, rfl⟩
    go_wp2_with fail
    exact bodyPost_ret (v := .tuple #[.agg #[.int .i64 0, .int .i64 0, .int .i64 0, .int .i64 0], .bool false]) (by simp [results, Try.results20, go_sem]) rfl ⟨rfl, (Below.refl _ _).alloc (Nat.le_refl _) _⟩
  | true =>
    obtain ⟨hx1, hx2⟩ := hasX_mem hh
    obtain ⟨x, ex⟩ : ∃ x, x = hasX L k := ⟨_, rfl⟩
    rw [← ex] at hx1 hx2 ⊢
    obtain ⟨j, hj⟩ := List.mem_iff_getElem?.1 hx1
    have hjl := (List.getElem?_eq_some_iff.1 hj).1
    have hP := fun o => rfind_some (R.alloc o) hlen hu hj
    rw [hx2] at hP
    have HP := Lib.hid hP
    rcases RowK.own_form R.row with ⟨_, rfl⟩ | ⟨g, c, rfl, hc, hg, _, hl⟩
    · simp at hx1
    obtain ⟨x0, x1, x2, x3⟩ := ri_cells0 hl hj
    have c1 := R.blk.cell 1
    have rl := R.blk.lt
    simp at c1
    have b0 : ¬ (j : Int) < 0 := by omega
    have b1 : (0 : Int) ≤ (j : Int) := by omega
    have b2 : (j : Int) < (L.length : Int) := by omega
    clear R hu hh hx1 hx2 ex hj hP hl
    go_enter Try.func20, Try.ntmps20
    go_wp2_with fail
    refine (HP.out _).mono ?_
    rintro e w1 ⟨rfl, rfl⟩
    go_wp2_with fail
    exact bodyPost_ret (v := .tuple #[.agg #[.int .i64 x.id, .int .i64 x.fl, .int .i64 x.ct, .int .i64 (x.pr : Int)], .bool true]) (by simp [results, Try.results20, go_sem]) rfl ⟨rfl, (Below.refl _ _).alloc (Nat.le_refl _) _⟩

theorem cut_at {L : List It} (hu : (L.map (·.id)).Nodup) {j : Nat} {x : It} (hx : L[j]? = some x) : L.take j ++ L.drop (j + 1) = cutL L x.id := by
  obtain ⟨hj, ey⟩ := List.getElem?_eq_some_iff.1 hx
  have e1 : L = L.take j ++ x :: L.drop (j + 1) := by rw [← ey, List.getElem_cons_drop, List.take_append_drop]
  rw [e1] at hu
  conv => rhs; rw [e1]
  rw [cut_split hu]
theorem below_nil {w6 w7 : World} (h : w6.grownBy w7 (Value.slice none 0 0).ownBlock) : Below w6.heap.size w6 w7 := (Below.refl _ _).grown h (Nat.le_refl _) (fun k e => by cases e)
/-- Behind two appends to nil all that lay lies as it lay. -/
theorem below_two {w w1 w2 : World} {u1 u2 : Value} {xs ys : List It} (hg1 : w.grownBy w1 (Value.slice none 0 0).ownBlock) (hg2 : w1.grownBy w2 u1.ownBlock) (ho1 : u1.ownBlock = (Value.slice none 0 0).ownBlock ∨ u1.ownBlock = some w.heap.size) (O2 : RI.own w2 w.heap.size u2 ([] ++ xs ++ ys)) :
    Below w.heap.size w w2 ∧ RI.own w2 w.heap.size u2 (xs ++ ys) := by
  have b : Below w.heap.size w w2 := (below_nil hg1).grown hg2 hg1.size (fun k e => by
    rcases ho1 with h | h
    · rw [h] at e; cases e
    · rw [h] at e; cases e; exact Nat.le_refl _)
  exact ⟨b, by simpa using O2⟩

set_option maxHeartbeats 4000000 in
set_option maxRecDepth 100000 in
theorem rcut_yes {w : World} {B r many : Nat} {v : Value} {L : List It} (R : Rf w B r many v L) (hlen : L.length ≤ 1000) (hu : (L.map (·.id)).Nodup) {j : Nat} {x : It} (hx : L[j]? = some x) :
    Calls Try.prog 13 #[.pointer (some ⟨r, 0, none⟩), .int .i64 x.id] w fun e w' => e = .returned (.bool true) ∧ ∃ v', Rf w' B r many v' (cutL L x.id) ∧ RM w w' r v v' := by
  have hjl := (List.getElem?_eq_some_iff.1 hx).1
  have HFi := Lib.hid (rfind_some R hlen hu hx)
  rcases RowK.own_form R.row with ⟨_, rfl⟩ | ⟨g, c, rfl, hc, hg, _, hl⟩
  · simp at hx
  have c1 := R.blk.cell 1
  have rl := R.blk.lt
  simp at c1
  have b0 : (0 : Int) ≤ (j : Int) := by omega
  have b1 : (j : Int) < (L.length : Int) := by omega
  have b2 : (j : Int) ≤ (c : Int) := by omega
  have b3 : (L.length : Int) ≤ (c : Int) := by omega
  have b4 : (j : Int) + 1 ≤ (L.length : Int) := by omega
  have b5 : ¬ (j : Int) < 0 := by omega
  have HR := Lib.hid (And.intro R (cut_at hu hx))
  have o0 : RI.own w w.heap.size (.slice none 0 0) [] := RowK.own_nil _ _
  have H0 := Lib.hid (And.intro o0 (show RI.shows w (some ⟨g, 0, none⟩) (L.take j) from RowK.cut_take (fun _ => ⟨g, 0, rfl, hg, hl⟩) j))
  have hd := RowK.cut_drop hl hg hc (j + 1)
  rw [Nat.zero_add] at hd
  have HD := Lib.hid (show RI.shows w (if c = j + 1 then (some ⟨g, 0, none⟩ : Option Addr) else some ⟨g, (j + 1) * 4, none⟩) (L.drop (j + 1)) from hd)
  have hlt : (L.take j).length = j := by rw [List.length_take]; omega
  have hld : (L.drop (j + 1)).length = L.length - (j + 1) := List.length_drop
  have HLn := Lib.hid (And.intro hlt hld)
  clear hl hu hx R o0 hd hlt hld
  go_enter Try.func13, Try.ntmps13
  go_wp2_with fail
  refine HFi.out.mono ?_
  rintro e w1 ⟨rfl, rfl⟩
  go_wp2_with (first
    | (at_builtin; refine RowK.append (R := RI) rfl _ _ rfl w.heap.size (.slice none 0 0) [] (L.take j) rfl H0.out.1 _ j c HLn.out.1.symm rfl H0.out.2 (fun e => by cases e) (by have := HLn.out.1; rw [List.length_nil]; omega) (Nat.le_refl _) ?_; intro u1 w1 O1 hg1 ho1; have c1' := (hg1.cell_far ⟨r, 1, none⟩ rl (fun e => by cases e)).trans c1)
    | (at_builtin; (refine RowK.append (R := RI) rfl _ _ rfl w.heap.size u1 ([] ++ L.take j) (L.drop (j + 1)) rfl O1 _ _ _ HLn.out.2.symm rfl (RowK.shows_below HD.out (below_nil hg1)) (fun e => by split at e <;> cases e) (by have := HLn.out.1; have := HLn.out.2; rw [List.nil_append]; omega) hg1.size ?_; intro u2 w2 O2 hg2 ho2; have F2 := Lib.hid (below_two hg1 hg2 ho1 O2); obtain ⟨A2, n2, c2, hu2⟩ := RowK.own_slice O2; subst hu2; have c1'' := (F2.out.1.cell (p := ⟨r, 1, none⟩) rl).trans c1; have rl2 := Nat.lt_of_lt_of_le rl F2.out.1.size; have fr := (HR.out.1.blk.same (F2.out.1.block r rl)).frozen 1; clear O1 O2 hg1 hg2 ho1 ho2)))
  all_goals
    have F3 := Lib.hid (HR.out.1.store F2.out.1 (HR.out.2 ▸ F2.out.2))
    go_ret
    first
      | exact ⟨rfl, _, F3.out.1, F3.out.2⟩
      | (have hcj : c = j + 1 := by assumption
         rw [hcj] at F3
         exact ⟨rfl, _, F3.out.1, F3.out.2⟩)
theorem rcut_any {w : World} {B r many : Nat} {v : Value} {L : List It} (R : Rf w B r many v L) (hlen : L.length ≤ 1000) (hu : (L.map (·.id)).Nodup) (k : Int) :
    Calls Try.prog 13 #[.pointer (some ⟨r, 0, none⟩), .int .i64 k] w fun e w' => e = .returned (.bool (hasI L k)) ∧ ∃ v', Rf w' B r many v' (cutL L k) ∧ RM w w' r v v' := by
  cases hh : hasI L k with
  | true =>
    obtain ⟨x, hxL, rfl⟩ := hasI_iff.1 hh
    obtain ⟨j, hj⟩ := List.mem_iff_getElem?.1 hxL
    exact rcut_yes R hlen hu hj
  | false =>
    have HF := Lib.hid (And.intro (cut_none hh) R)
    have HFi := Lib.hid (rfind_no R hlen hh)
    clear R hu hh
    go_enter Try.func13, Try.ntmps13
    go_wp2_with fail
    refine HFi.out.mono ?_
    rintro e w1 ⟨rfl, rfl⟩
    go_wp2_with fail
    go_ret
    exact ⟨rfl, v, by rw [HF.out.1]; exact HF.out.2, Kept.refl _ _, .inl rfl⟩

set_option maxHeartbeats 4000000 in
set_option maxRecDepth 100000 in
theorem rmove_far {w : World} {B r many : Nat} {v : Value} {L : List It} (R : Rf w B r many v L) (hlen : L.length ≤ 1000) (hu : (L.map (·.id)).Nodup) {j : Nat} {x : It} (hx : L[j]? = some x) (p : Nat) (hp : p < many) (hne : x.pr ≠ p) :
    Calls Try.prog 15 #[.pointer (some ⟨r, 0, none⟩), .int .i64 x.id, .int .i64 (p : Int)] w fun e w' => e = .returned (.int .i64 0) ∧ ∃ v', Rf w' B r many v' (cutL L x.id ++ [{ x with pr := p }]) ∧ RM w w' r v v' := by
  have hjl := (List.getElem?_eq_some_iff.1 hx).1
  have HFi := Lib.hid (rfind_some R hlen hu hx)
  have HCu := Lib.hid (fun o => rcut_yes (R.alloc o) hlen hu hx)
  have hcl : (cutL L x.id).length ≤ 1000 := Nat.le_trans (List.length_filter_le _ _) hlen
  have c0 : w.cell? ⟨r, 0, none⟩ = some (.int .i64 (many : Int)) := R.blk.cell 0
  have HRM := Lib.hid (fun o => RM.of_below (r := r) (v := v) ((Below.refl _ w).alloc (Nat.le_refl _) o))
  rcases RowK.own_form R.row with ⟨_, rfl⟩ | ⟨g, c, rfl, hc, hg, _, hl⟩
  · simp at hx
  obtain ⟨x0, x1, x2, x3⟩ := ri_cells0 hl hx
  have c1 := R.blk.cell 1
  have rl := R.blk.lt
  simp at c1
  have HX := Lib.hid (show ∀ o, ((w.alloc o).heap[w.heap.size]? = some o ∧ r ≠ w.heap.size ∧ g ≠ w.heap.size) from fun o => ⟨heap_alloc_new w o, by omega, by omega⟩)
  have b0 : (0 : Int) ≤ (j : Int) := by omega
  have b1 : (j : Int) < (L.length : Int) := by omega
  have b5 : ¬ (j : Int) < 0 := by omega
  have p0 : ¬ (p : Int) < 0 := by omega
  have p1 : (p : Int) < (many : Int) := by omega
  have pn : ((x.pr : Int) == (p : Int)) = false := by simp; omega
  have pm : ((x.pr : Int) != (p : Int)) = true := by simp; omega
  have HR := Lib.hid R
  clear hl hu hx R hne
  go_enter Try.func15, Try.ntmps15
  go_wp2_with fail
  refine HFi.out.mono ?_
  rintro e w1 ⟨rfl, rfl⟩
  go_wp2_with fail
  obtain ⟨o, eo⟩ : ∃ o : Obj, o = .cells #[.int .i64 x.id, .int .i64 x.fl, .int .i64 x.ct, .int .i64 (x.pr : Int)] 48 := ⟨_, rfl⟩
  refine (HCu.out _).mono ?_
  rintro e w2 ⟨rfl, v2, R2, k2⟩
  have xb : Blk w2 w.heap.size 48 #[.int .i64 x.id, .int .i64 x.fl, .int .i64 x.ct, .int .i64 (x.pr : Int)] :=
    Blk.kept (Blk.new w 48 #[.int .i64 x.id, .int .i64 x.fl, .int .i64 x.ct, .int .i64 (x.pr : Int)]) k2.1 (fun e => by
      rcases e with e | e
      · exact (HX.out default).2.1 e.symm
      · injection e with e; exact (HX.out default).2.2 e)
  clear eo
  obtain ⟨n, en⟩ : ∃ n, n = w.heap.size := ⟨_, rfl⟩
  rw [← en] at xb ⊢
  have y0 := xb.cell 0
  have y1 := xb.cell 1
  have y2 := xb.cell 2
  have y3 := xb.cell 3
  have yf := xb.frozen 3
  have yl := xb.lt
  have hn2 : ¬ (n = r ∨ v2.ownBlock = some n) := by
    rintro (e | e)
    · have := (HX.out default).2.1; omega
    · rcases k2.own e with e2 | e2
      · have e3 : g = n := by simpa [Value.ownBlock] using e2
        have := (HX.out default).2.2; omega
      · rw [World.size_alloc] at e2; omega
  obtain ⟨V, eV⟩ : ∃ V, V = w2.setCell ⟨n, 3, none⟩ (.int .i64 (p : Int)) := ⟨_, rfl⟩
  have RV : Rf V B r many v2 (cutL L x.id) := by
    rw [eV]
    exact R2.kept (F := fun k => k = n) (Kept.setCell (F := fun k => k = n) (Kept.refl _ w2) (p := ⟨n, 3, none⟩) rfl _) (fun i hi e => hn2 (e ▸ hi))
  have kV : RM w V r (.slice (some ⟨g, 0, none⟩) L.length c) v2 := by
    have h0 := (HRM.out _).trans k2
    rw [eV]
    exact ⟨h0.1.setCell_new (p := ⟨n, 3, none⟩) (by rw [en]; exact Nat.le_refl _) _, h0.2⟩
  have ho : Rf (V.alloc (.cells #[.int .i64 x.id, .int .i64 x.fl, .int .i64 x.ct, .int .i64 (p : Int)] 48)).drew B r many v2 (cutL L x.id) := (RV.alloc _).drew
  have hs : RI.shows (V.alloc (.cells #[.int .i64 x.id, .int .i64 x.fl, .int .i64 x.ct, .int .i64 (p : Int)] 48)).drew (some ⟨V.heap.size, 0, none⟩) [{ x with pr := p }] := fun _ => ⟨_, 0, rfl, by simp, RowK.lies_new (R := RI) V { x with pr := p } _⟩
  obtain ⟨A0, n0, k0, hv⟩ := RowK.own_slice RV.row
  have d1 := RV.blk.cell 1
  have df := RV.blk.frozen 1
  have rl2 := RV.blk.lt
  simp at d1
  rw [hv] at d1
  have hB : B ≤ V.heap.size := Nat.le_trans RV.hB (Nat.le_of_lt RV.blk.lt)
  have xV : Blk V n 48 #[.int .i64 x.id, .int .i64 x.fl, .int .i64 x.ct, .int .i64 (p : Int)] := by rw [eV]; simpa using xb.set_ 3 (.int .i64 (p : Int))
  have HY := Lib.hid (And.intro (hv ▸ ho) (And.intro hs (hv ▸ kV.trans (RM.of_below (((Below.refl _ V).alloc (Nat.le_refl _) (.cells #[.int .i64 x.id, .int .i64 x.fl, .int .i64 x.ct, .int .i64 (p : Int)] 48)).drew)))))
  have EV := Lib.hid eV
  have hne : (Value.slice A0 n0 k0).ownBlock ≠ some r := hv ▸ RV.ne
  have HNE := Lib.hid hne
  simp at y0 y1 y2 y3
  clear R2 k2 en RV kV ho hs hv eV hn2 hne
  go_wp2_with fail
  rw [← EV.out]
  have z0 := xV.cell 0
  have z1 := xV.cell 1
  have z2 := xV.cell 2
  have z3 := xV.cell 3
  have zl := xV.lt
  simp at z0 z1 z2 z3
  have HXV := Lib.hid xV
  clear y0 y1 y2 y3 xb yf yl xV
  go_region_law ((refine RowK.step_append (R := RI) (by rfl) _ _ (by rfl) B (.slice A0 n0 k0) (cutL L x.id) [{ x with pr := p }] (by rfl) HY.out.1.row ⟨V.heap.size, 0, none⟩ 1 1 rfl (by rfl) HY.out.2.1 (by omega) (by simp; omega) (by simp; omega) (V.heap.size + 1) (by simp) ?_
                  intro gg cap w3 O3 hgrow hat hlt
                  have F3 := Lib.hid (HY.out.1.grown (u := .slice (some ⟨gg, 0, none⟩) ((cutL L x.id).length + 1) cap) hgrow (by rcases hat with e | e; (exact .inl e.symm); (right; rw [e]; simp [Value.ownBlock])) O3)
                  have b3 := HY.out.1.blk.same (hgrow.block r (by simp; omega) (fun e => HNE.out e.symm))
                  have fz := b3.frozen 1
                  have cz := b3.cell 1
                  have lq := b3.lt))
  all_goals
    go_wp2_with fail
    go_ret
    exact ⟨rfl, _, F3.out.1, HY.out.2.2.trans F3.out.2⟩

theorem rmove_any {w : World} {B r many : Nat} {v : Value} {L : List It} (R : Rf w B r many v L) (hlen : L.length ≤ 1000) (hu : (L.map (·.id)).Nodup) (k p : Int) :
    Calls Try.prog 15 #[.pointer (some ⟨r, 0, none⟩), .int .i64 k, .int .i64 p] w fun e w' => e = .returned (.int .i64 (moveE many L k p)) ∧ ∃ v', Rf w' B r many v' (moveS many L k p) ∧ RM w w' r v v' := by
  have c0 : w.cell? ⟨r, 0, none⟩ = some (.int .i64 (many : Int)) := R.blk.cell 0
  have rl := R.blk.lt
  cases hh : hasI L k with
  | false =>
    obtain ⟨e1, e2⟩ := moveE_not (L := L) (k := k) (many := many) (p := p) (.inl hh)
    rw [e1, e2]
    have HR := Lib.hid R
    have HFi := Lib.hid (rfind_no R hlen hh)
    clear R hu hh e1 e2
    go_enter Try.func15, Try.ntmps15
    go_wp2_with fail
    refine HFi.out.mono ?_
    rintro e w1 ⟨rfl, rfl⟩
    go_wp2_with fail
    go_ret
    exact ⟨rfl, v, HR.out, Kept.refl _ _, .inl rfl⟩
  | true =>
    obtain ⟨x, hxL, rfl⟩ := hasI_iff.1 hh
    obtain ⟨j, hj⟩ := List.mem_iff_getElem?.1 hxL
    have HFi := Lib.hid (rfind_some R hlen hu hj)
    have b0 : (0 : Int) ≤ (j : Int) := by omega
    have b5 : ¬ (j : Int) < 0 := by omega
    by_cases h1 : p < 0
    · obtain ⟨e1, e2⟩ := moveE_not (L := L) (k := x.id) (many := many) (p := p) (.inr (.inl h1))
      rw [e1, e2]
      have HR := Lib.hid R
      clear R hu hh e1 e2 hj hxL
      go_enter Try.func15, Try.ntmps15
      go_wp2_with fail
      refine HFi.out.mono ?_
      rintro e w1 ⟨rfl, rfl⟩
      go_wp2_with fail
      go_ret
      exact ⟨rfl, v, HR.out, Kept.refl _ _, .inl rfl⟩
    by_cases h2 : (many : Int) ≤ p
    · obtain ⟨e1, e2⟩ := moveE_not (L := L) (k := x.id) (many := many) (p := p) (.inr (.inr h2))
      rw [e1, e2]
      have HR := Lib.hid R
      clear R hu hh e1 e2 hj hxL
      go_enter Try.func15, Try.ntmps15
      go_wp2_with fail
      refine HFi.out.mono ?_
      rintro e w1 ⟨rfl, rfl⟩
      go_wp2_with fail
      go_ret
      exact ⟨rfl, v, HR.out, Kept.refl _ _, .inl rfl⟩
    · obtain ⟨q, rfl⟩ : ∃ q : Nat, p = (q : Int) := ⟨p.toNat, by omega⟩
      have hq : q < many := by omega
      obtain ⟨e1, e2⟩ := moveE_of hh hq
      have hX : hasX L x.id = x := by
        obtain ⟨M, y, N, rfl, ey⟩ := split_id hh
        have h3 := hasX_mem hh
        exact id_inj hu h3.1 hxL h3.2
      rw [e1, e2]
      by_cases e : x.pr = q
      · rw [move_same hh hu (by rw [hX]; exact e)]
        have HR := Lib.hid (fun o => And.intro (R.alloc o) (RM.of_below (r := r) (v := v) ((Below.refl _ w).alloc (Nat.le_refl _) o)))
        rcases RowK.own_form R.row with ⟨_, rfl⟩ | ⟨g, c, rfl, hc, hg, _, hl⟩
        · simp at hj
        obtain ⟨x0, x1, x2, x3⟩ := ri_cells0 hl hj
        have c1 := R.blk.cell 1
        simp at c1
        have hjl := (List.getElem?_eq_some_iff.1 hj).1
        have b1 : (j : Int) < (L.length : Int) := by omega
        rw [e] at x3
        clear R hu hh e1 e2 hj hxL hX hl
        go_enter Try.func15, Try.ntmps15
        go_wp2_with fail
        refine HFi.out.mono ?_
        rintro e w1 ⟨rfl, rfl⟩
        go_wp2_with fail
        go_ret
        exact ⟨rfl, _, (HR.out _).1, (HR.out _).2⟩
      · rw [move_far hh hu (by rw [hX]; exact e), hX]
        exact rmove_far R hlen hu hj q hq e
end Go.Proofs.Ytlkmmbondelheaa
