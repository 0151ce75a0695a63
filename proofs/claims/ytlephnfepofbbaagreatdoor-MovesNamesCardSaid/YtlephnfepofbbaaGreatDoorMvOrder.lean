/-
  The reader's order: numbers between commas.
-/
import Derived.Test.YtlephnfepofbbaaGreatDoorMvOrdM
import Derived.Maps.AppendAt
import Derived.WalkHide
namespace Go.Proofs.YtlephnfepofbbaaGreatDoor
open Go.RowKit Go.Shelf Go.Maps Go.ChangeMaps

attribute [local go_sem] Oper.semAt_some

theorem RowK.app_eq {P : Program} {α : Type} {R : RowK P α} {w : World} (B : Nat) (v : Value) (xs ys : List α) (hown : R.own w B v xs) (ad : Addr) (n c : Nat) (hn : n = ys.length) (hnews : ∀ j u, (R.all ys)[j]? = some u → w.cell? (ad.add j) = some u) (h0 : 0 < n) (hlen : xs.length + ys.length ≤ 100000000) (hB : B ≤ w.heap.size) (ty : TypeId) :
    ∃ g cap w', (Builtin.append_ #[R.s, R.s] ty #[v, .slice (some ad) n c]).run P w = .ok (.slice (some ⟨g, 0, none⟩) (xs.length + n) cap) w' ∧ R.own w' B (.slice (some ⟨g, 0, none⟩) (xs.length + n) cap) (xs ++ ys) ∧ w.grownBy w' v.ownBlock ∧ (v.ownBlock = some g ∨ g = w.heap.size) := by
  subst hn
  obtain ⟨i0, hi, hz0, hz1, hz2⟩ := row_info R.info
  have hb := R.by_
  have hbig : (xs.length + ys.length) * R.bytes ≤ 140737488355328 := by
    have := Nat.mul_le_mul hlen hb
    omega
  obtain ⟨v', w', h1, h2, h3, h4, h5⟩ := run_append_own_at w B R.s ty R.e i0 _ R.n R.bytes R.und hi hz0 hz1 hz2 R.zs R.pos v xs.length _ hown ad ys.length c (R.all ys) (R.all_len ys) hnews (R.all_one ys) (by unfold maxLen; omega) hbig hB
  rcases h2.2 with ⟨e, h6⟩ | ⟨g, cap, cur, e, hg, r⟩
  · exact absurd h6 (by omega)
  · subst e
    refine ⟨g, cap, w', h1, by unfold RowK.own; rw [List.length_append, R.all_append]; exact h2, h3, ?_⟩
    rcases h5 with h5 | h5
    · exact .inl h5.symm
    · exact .inr (Option.some.inj h5)
theorem ordP_app (l : List (List UInt8)) (x : List UInt8) (rest : List (List UInt8)) (acc a : List Int) (h : ∀ rest, ordP (l ++ rest) acc = ordP rest a) : ordP ((l ++ [x]) ++ rest) acc = ordP (x :: rest) a := by
  rw [List.append_assoc]; exact h _

attribute [-go_sem] Builtin.append_

set_option maxRecDepth 100000 in
set_option maxHeartbeats 8000000 in
theorem order_any (N g : Nat) (st : St) (mv : Mo) (s : ByteArray) (hs : s.size ≤ 20000000) (hord : st.ord.length ≤ 50) (w : World) (hE : RdE N g w) (hR : Rdm N g 2 st mv w) :
    Calls Tryz.prog 76 #[.pointer (some ⟨g, 0, none⟩), .string s] w (MethR N g 2 w (rdW ⟨2, st, mv⟩ s.data.toList)) := by
  have e0 : rdW ⟨2, st, mv⟩ s.data.toList = (ordP (splitB 44 s.data.toList) st.ord).elim none (fun l => some ⟨5, { st with ord := l }, mv⟩) := by
    unfold rdW
    simp only []
    cases ordP (splitB 44 s.data.toList) st.ord <;> simp
  rw [e0]
  clear e0
  refine (callsIn_wide (n := 4)).1 ?_
  obtain ⟨Y, hY⟩ : ∃ Y, (w.alloc (.cells #[.pointer (some ⟨g, 0, none⟩)] 147)).alloc (.cells #[.int .i64 0] 3) = Y := ⟨_, rfl⟩
  have hYb : Below w.heap.size w Y := by rw [← hY]; exact ((Below.refl _ w).alloc (Nat.le_refl _) _).alloc (by simp) _
  have hYsz : Y.heap.size = w.heap.size + 1 + 1 := by rw [← hY]; simp
  have y1 : Boxed Y w.heap.size 147 (.pointer (some ⟨g, 0, none⟩)) := by rw [← hY]; exact (Boxed.new w _ _).alloc _
  have y2 : Boxed Y (w.heap.size + 1) 3 (.int .i64 0) := by
    rw [← hY]
    have := Boxed.new (w.alloc (.cells #[.pointer (some ⟨g, 0, none⟩)] 147)) 3 (.int .i64 0)
    simpa using this
  have HY := Lib.hid hY
  have HE := Lib.hid hE
  have HS := Lib.hid hs
  clear hY hs
  refine callsIn_of_wp_marks Tryz.func76 rfl trivial ?_ rfl
  simp only [Tryz.ntmps76, List.size_toArray, List.length_cons, List.length_nil, Nat.reduceAdd, Nat.reduceSub, Array.replicate_succ, Array.replicate_zero, List.push_toArray, List.append_toArray, List.nil_append, List.cons_append]
  gi_wp2_with (refine ⟨trivial, ?_⟩; gi_at_call 73; refine (callsIn_wide.2 (splitSeq_all 44 s _)).mono ?_; rintro e Z ⟨Bp, Bs, Bn, rfl, hbx, hge, hdf, hb⟩)
  rw [HY.out] at hb hge
  obtain ⟨g1, g2, g3⟩ := hge
  rw [hYsz] at g1 g2 g3
  have hZb := below_endL hYb hb
  have z1 : Boxed Z w.heap.size 147 (.pointer (some ⟨g, 0, none⟩)) := (hb.block _ y1.lt).trans y1
  have z2 : Boxed Z (w.heap.size + 1) 3 (.int .i64 0) := (hb.block _ y2.lt).trans y2
  have hZz := hb.size
  rw [hYsz] at hZz
  have hbx1 := hbx.1.lt
  have hbx2 := hbx.2.1.lt
  have hbx3 := hbx.2.2.lt
  obtain ⟨H, hH⟩ : ∃ H, Z.heap.size = H := ⟨_, rfl⟩
  have hlt := hE.lt
  have hle := hE.le
  have hI0 : OrdI N g w.heap.size Z.heap.size st mv w [] Z := by
    obtain ⟨ov, mvv, dv, b1, r1⟩ := hR.quiet hZb
    obtain ⟨ov, mvv, dv, b1, r1⟩ := hR
    exact ⟨st.ord, ov, mvv, dv, fun rest => rfl, hord, b1.same (hZb.block _ b1.lt), (r1.toD (fun k h1 h2 => ⟨h1, .inl h2⟩)).below hZb, z1, z2, Fs.of hZb, Nat.le_refl _⟩
  clear y1 y2 z1 z2 hYb hb HY hYsz hR hord
  refine rangeFunc_box (n := 4) (by omega) (gf := 137) (lb := #[.pointer (some ⟨Bp, 0, none⟩), .pointer (some ⟨Bs, 0, none⟩), .pointer (some ⟨Bn, 0, none⟩)]) rfl (enters_of Tryz.func137 (by kernel_rfl) rfl)
    (split_box 44 3 (by omega) Bp Bs Bn hdf s HS.out Z hbx) (fun h k => h.trans k) (fun W l o o' hl _ _ _ => Kp3.put hbx1 hbx2 hbx3 W l o' hl) (fun _ => rfl)
    (OrdI N g w.heap.size Z.heap.size st mv w) (OrdX N g w.heap.size st w)
    (ordI_own N g w.heap.size Z.heap.size st mv w (by omega) (by omega)) (ordX_own N g w.heap.size Z.heap.size st w (by omega) (by omega))
    (fun pre A v hs => by
      obtain ⟨l, ov, mvv, dv, h1, h2, h3, h4, h5, h6, h7, h8⟩ := hs
      exact ⟨l, ov, mvv, dv, h1, h2, h3.far (by show g ≠ Bs; omega) v, h4.set (by show ¬ (N ≤ Bs ∧ (Bs < w.heap.size ∨ Z.heap.size ≤ Bs)); omega) _ _, (Below.heap_setCell A _ v _ (by show w.heap.size ≠ Bs; omega)).trans h5, (Below.heap_setCell A _ v _ (by show w.heap.size + 1 ≠ Bs; omega)).trans h6, h7.cell (by omega) _ _, by simpa using h8⟩)
    hI0 ?act ?assign ?body ?done ?stop
  case assign =>
    intro l x W K hK
    gi_wp2
    exact hK
  case body =>
    rintro lp pre x W ⟨l, ov, mvv, dv, h1, h2, h3, h4, h5, h6, h7, h8⟩
    have hN := int_any x.1 (Nat.le_trans x.2 (by decide)) W (HE.out.on h7).env.e
    have HG := Lib.hid (And.intro g1 (And.intro g2 (And.intro g3 (And.intro hbx1 (And.intro hbx2 (And.intro hbx3 (And.intro hlt (And.intro hle hZz))))))))
    clear hI0 g1 g2 g3 hbx1 hbx2 hbx3 hlt hle hZz hbx hdf hZb hE
    cases hn : numP 63 x.1.data.toList with
    | none =>
      rw [hn] at hN
      have HN := Lib.hid hN
      have HX : Hid (∀ rest, ordP (lstOf (pre ++ [x]) ++ rest) st.ord = none) := Lib.hid (fun rest => by
        rw [lstOf_snoc, ordP_app _ _ _ _ _ h1]
        show (match numP 63 x.1.data.toList with
          | some n => if l.length = 50 then none else ordP rest (l ++ [(n : Int)])
          | none => none) = none
        rw [hn])
      have H3 := Lib.hid h3
      have H6 := Lib.hid h6
      have H7 := Lib.hid h7
      clear hN hn h1 h3 h4 h5 h6 h7
      gi_wp2_with (refine ⟨trivial, ?_⟩; gi_at_call 113; refine (CallsIn.inRound lp (callsIn_wide.2 HN.out)).mono ?_; rintro e W1 ⟨rfl, hb1⟩; have q6 : Boxed W1 (w.heap.size + 1) 3 (.int .i64 0) := (hb1.block _ H6.out.lt).trans H6.out; have c6 := q6.cell; have f6 := q6.frozen)
      exact ⟨(keeps_under hb1).trans (KeepsOthers.setCell _ _ _), rfl, HX.out, ⟨_, (H3.out.same (hb1.block _ H3.out.lt)).far (by have := HG.out; show g ≠ w.heap.size + 1; omega) _, rfl⟩, q6.set _, (H7.out.under hb1).cell (by have := HG.out; omega) _ _⟩
    | some n =>
      rw [hn] at hN
      have HN := Lib.hid hN
      obtain ⟨A, c, hov, a1, a2, a3⟩ := RowK.own_shows h4.ord
      have hlen : ∀ (ty : TypeId) (V : World), (Builtin.len_ #[34] ty #[ov]).run Tryz.prog V = .ok (.int .i64 (l.length : Int)) V := fun ty V => by
        rw [hov]
        exact run_len_slice V _ _ _ _ _ Tryz.underlying34
      by_cases h50 : l.length = 50
      · have HX : Hid (∀ rest, ordP (lstOf (pre ++ [x]) ++ rest) st.ord = none) := Lib.hid (fun rest => by
          rw [lstOf_snoc, ordP_app _ _ _ _ _ h1]
          show (match numP 63 x.1.data.toList with
            | some n => if l.length = 50 then none else ordP rest (l ++ [(n : Int)])
            | none => none) = none
          rw [hn]
          simp only []
          rw [if_pos h50])
        have H3 := Lib.hid h3
        have H5 := Lib.hid h5
        have H6 := Lib.hid h6
        have H7 := Lib.hid h7
        rw [h50] at hlen
        clear hN hn h1 h3 h4 h5 h6 h7 a1 a2 a3 h50 h2 hov
        gi_wp2_with (refine ⟨trivial, ?_⟩; gi_at_call 113; refine (CallsIn.inRound lp (callsIn_wide.2 HN.out)).mono ?_; rintro e W1 ⟨rfl, hb1⟩; have q6 : Boxed W1 (w.heap.size + 1) 3 (.int .i64 0) := (hb1.block _ H6.out.lt).trans H6.out; have c6 := q6.cell; have f6 := q6.frozen; have c5 := Boxed.cell (show Boxed W1 w.heap.size 147 (.pointer (some ⟨g, 0, none⟩)) from (hb1.block _ H5.out.lt).trans H5.out); have c3 := (H3.out.same (hb1.block _ H3.out.lt)).cell 3)
        exact ⟨(keeps_under hb1).trans (KeepsOthers.setCell _ _ _), rfl, HX.out, ⟨_, (H3.out.same (hb1.block _ H3.out.lt)).far (by have := HG.out; show g ≠ w.heap.size + 1; omega) _, rfl⟩, q6.set _, (H7.out.under hb1).cell (by have := HG.out; omega) _ _⟩
      · have h50' : ¬ (l.length : Int) = 50 := by omega
        have HP : Hid (∀ rest, ordP (lstOf (pre ++ [x]) ++ rest) st.ord = ordP rest (l ++ [(n : Int)])) := Lib.hid (fun rest => by
          rw [lstOf_snoc, ordP_app _ _ _ _ _ h1]
          show (match numP 63 x.1.data.toList with
            | some n => if l.length = 50 then none else ordP rest (l ++ [(n : Int)])
            | none => none) = _
          rw [hn]
          simp only []
          rw [if_neg h50])
        have HL : Hid (l.length ≤ 49) := Lib.hid (by omega)
        have H3 := Lib.hid h3
        have H4 := Lib.hid h4
        have H5 := Lib.hid h5
        have H6 := Lib.hid h6
        have H7 := Lib.hid h7
        have H8 := Lib.hid h8
        clear hN hn h1 h3 h4 h5 h6 h7 h8 a1 a2 a3 h50 h2 hov
        gi_wp2_with (refine ⟨trivial, ?_⟩; gi_at_call 113; refine (CallsIn.inRound lp (callsIn_wide.2 HN.out)).mono ?_; rintro e W1 ⟨rfl, hb1⟩; have q6 : Boxed W1 (w.heap.size + 1) 3 (.int .i64 0) := (hb1.block _ H6.out.lt).trans H6.out; have c5 := Boxed.cell (show Boxed W1 w.heap.size 147 (.pointer (some ⟨g, 0, none⟩)) from (hb1.block _ H5.out.lt).trans H5.out); have l5 : w.heap.size < W1.heap.size := Nat.lt_of_lt_of_le H5.out.lt hb1.size; have q3 := H3.out.same (hb1.block _ H3.out.lt); have c3 := q3.cell 3; have l3 := q3.lt)
        have hbv : Below W1.heap.size W1 ((W1.alloc (.cells #[.int .i64 (n : Int)] 3)).drew) := ((Below.refl _ _).alloc (Nat.le_refl _) _).drew
        have hO := (H4.out.below hb1).below hbv
        obtain ⟨gg, cap, W2, hrun, hown, hgr, hat⟩ := RowK.app_eq (R := RIn) N ov l [(n : Int)] hO.ord ⟨W1.heap.size, 0, none⟩ 1 1 rfl (fun j u hu => by
          have hj : j = 0 := by
            have := (List.getElem?_eq_some_iff.1 hu).1
            simp [RowK.all, RIn] at this; omega
          subst hj
          have : u = .int .i64 (n : Int) := by simpa [RowK.all, RIn] using hu.symm
          subst this
          exact cell_of_row _ _ 0 _ _ (0, 0) (heap_alloc_new W1 _)) (by omega) (by have := HL.out; simp; omega) (by have := HG.out; have := (H7.out.under hb1).size; have := hbv.size; omega) 34
        have hm : Tryz.prog.follows .mixedOrders = true := by kernel_rfl
        have k2 := (q3.same (hbv.block _ q3.lt)).same (hgr.block g (Nat.lt_of_lt_of_le q3.lt hbv.size) (fun e => by have := HG.out; have := (RowK.own_lt hO.ord e.symm).2; omega))
        have e2 := k2.cell 3
        have f2 := k2.frozen 3
        have l2 := k2.lt
        have k5 : Boxed W2 w.heap.size 147 (.pointer (some ⟨g, 0, none⟩)) := (hgr.block _ (Nat.lt_of_lt_of_le l5 hbv.size) (fun e => by have := HG.out; have := hO.od _ e.symm; omega)).trans ((hbv.block _ l5).trans ((hb1.block _ H5.out.lt).trans H5.out))
        have e5 := k5.cell
        have hEnd : ownPostK (Kp3 Bp Bs Bn) (OrdI N g w.heap.size Z.heap.size st mv w) (OrdX N g w.heap.size st w) (pre ++ [x]) W .normal ⟨#[], []⟩ (W2.setCell ⟨g, 3, none⟩ (.slice (some ⟨gg, 0, none⟩) (l.length + 1) cap)) := by
          obtain ⟨p1, p2, p3, p4, p5, p6, p7, p8, p9⟩ := HG.out
          have hne : ∀ q, w.heap.size ≤ q → q < Z.heap.size → ov.ownBlock ≠ some q := fun q h1 h2 e => by have := hO.od q e; omega
          have hz1 := H8.out
          have hz2 := hb1.size
          have hz3 := hbv.size
          have hz4 := hgr.size
          refine ⟨(((keeps_under hb1).trans (keeps_under hbv)).trans (Fs.grown (g := g) hO.ord hgr).o).trans (KeepsOthers.setCell _ _ _), ?_, l ++ [(n : Int)], _, mvv, dv, HP.out, by have := HL.out; simp; omega, by simpa using k2.set_ 3 (.slice (some ⟨gg, 0, none⟩) (l.length + 1) cap), ?_, ?_, ?_, ?_, ?_⟩
          · refine ((kp3_under hb1).trans (kp3_under hbv)).trans (Kp3.trans (B := W2) (fun k hk o ho => ?_) (Kp3.set (by omega) (by omega) (by omega) _ _ _))
            have hlt := (Array.getElem?_eq_some_iff.1 ho).1
            exact (hgr.block k hlt (fun e => hne k (by omega) (by omega) e.symm)).trans ho
          · refine (hO.ordg (by simpa using hown) hgr (fun k e => ?_)).set (by omega) _ _
            have e : gg = k := Option.some.inj e
            subst e
            rcases hat with e | e
            · exact hO.od _ e
            · omega
          · exact (Below.heap_setCell W2 _ _ _ (by show w.heap.size ≠ g; omega)).trans k5
          · refine (Below.heap_setCell W2 _ _ _ (by show w.heap.size + 1 ≠ g; omega)).trans ?_
            refine (hgr.block _ (Nat.lt_of_lt_of_le q6.lt hbv.size) (fun e => hne _ (by omega) (by omega) e.symm)).trans ?_
            exact (hbv.block _ q6.lt).trans q6
          · exact (((H7.out.under hb1).under hbv).trans (Fs.grown hO.ord hgr)).trans (Fs.set _ _ _)
          · simp; omega
        have HEnd := Lib.hid hEnd
        clear hEnd hbv hO hown hgr hat k2 q6 hb1 q3 k5
        refine wpIn_hide (fun Q2 hQ2 => ?_)
        have HQ2 := Lib.hid hQ2
        clear hQ2
        have hrun2 : (Builtin.append_ #[34, 34] 34 #[ov, .slice (some ⟨W1.heap.size, 0, none⟩) 1 1]).run Tryz.prog ((W1.alloc (.cells #[.int .i64 (n : Int)] 3)).drew) = .ok (.slice (some ⟨gg, 0, none⟩) (l.length + 1) cap) W2 := hrun
        clear hrun
        gi_region_with_o (fail)
        all_goals exact HQ2.out _ _ _ HEnd.out
  case done =>
    rintro D ys W hD hys ⟨l, ov, mvv, dv, h1, h2, h3, h4, h5, h6, h7, h8⟩ hK
    have hp : ordP (splitB 44 s.data.toList) st.ord = some l := by
      have h := h1 []
      rw [List.append_nil, hys] at h
      exact h
    have hK' : (W.setCell ⟨w.heap.size + 1, 0, none⟩ (.int .i64 5)).heap[D]? = some (.deferred (some [])) := (KeepsOthers.setCell W _ _).same D _ hK rfl
    have q6 : Boxed (W.setCell ⟨w.heap.size + 1, 0, none⟩ (.int .i64 5)) (w.heap.size + 1) 3 (.int .i64 5) := h6.set _
    have c6 := h6.cell
    have f6 := h6.frozen
    have z2 := cell_kept q6.cell (grownBy_putObj' _ D (.deferred none)) (fun r e => by cases e; exact ⟨_, hK', rfl⟩)
    have HZ2 := Lib.hid z2
    have HR : Hid (MethR N g 2 w ((ordP (splitB 44 s.data.toList) st.ord).elim none (fun l => some ⟨5, { st with ord := l }, mv⟩)) (.returned (.int .i64 5)) ((W.setCell ⟨w.heap.size + 1, 0, none⟩ (.int .i64 5)).putObj D (.deferred none))) := Lib.hid (by
      rw [hp]
      have hgr := grownBy_putObj' (W.setCell ⟨w.heap.size + 1, 0, none⟩ (.int .i64 5)) D (.deferred none)
      have hrr : ∀ r, some D = some r → ∃ o : Obj, (W.setCell ⟨w.heap.size + 1, 0, none⟩ (.int .i64 5)).heap[r]? = some o ∧ o.isCells = false := fun r e => by cases e; exact ⟨_, hK', rfl⟩
      refine ⟨(h7.cell (by omega) _ _).put hgr (fun r e => by cases e; omega), rfl, ov, mvv, dv, blk_put (h3.far (by show g ≠ w.heap.size + 1; omega) _) hgr hrr, ((h4.set (by omega) _ _).put hgr hrr).toR⟩)
    have HK := Lib.hid hK'
    clear z2 h1 h3 h4 h5 h6 h7 h8 hp hys q6 hK'
    gi_wp2
    refine ⟨by simp, .inl ⟨_, _, rfl, run_takeDeferred HK.out, ?_⟩⟩
    refine ⟨.int .i64 5, ?_, HR.out⟩
    have z2 := HZ2.out
    simp [results, Tryz.results76, go_sem, z2]
  case stop =>
    rintro D c pre W hD hpre ⟨rfl, hno, ⟨cs, hR, hcs⟩, hX, hF⟩ hK
    have hp : ordP (splitB 44 s.data.toList) st.ord = none := by
      obtain ⟨rest, hq⟩ := hpre
      have h := hno rest
      rw [hq] at h
      exact h
    have z2 := cell_kept hX.cell (grownBy_putObj' _ D (.deferred none)) (fun r e => by cases e; exact ⟨_, hK, rfl⟩)
    have HZ2 := Lib.hid z2
    have HR : Hid (MethR N g 2 w ((ordP (splitB 44 s.data.toList) st.ord).elim none (fun l => some ⟨5, { st with ord := l }, mv⟩)) (.returned (.int .i64 9)) (W.putObj D (.deferred none))) := Lib.hid (by
      rw [hp]
      have hgr := grownBy_putObj' W D (.deferred none)
      have hrr : ∀ r, some D = some r → ∃ o : Obj, W.heap[r]? = some o ∧ o.isCells = false := fun r e => by cases e; exact ⟨_, hK, rfl⟩
      exact ⟨hF.put hgr (fun r e => by cases e; omega), rfl, cs, blk_put hR hgr hrr, hcs⟩)
    have HK := Lib.hid hK
    clear z2 hR hX hF hp hno hpre
    gi_wp2
    refine ⟨by simp, .inl ⟨_, _, rfl, run_takeDeferred HK.out, ?_⟩⟩
    refine ⟨.int .i64 9, ?_, HR.out⟩
    have z2 := HZ2.out
    simp [results, Tryz.results76, go_sem, z2]
end Go.Proofs.YtlephnfepofbbaaGreatDoor
