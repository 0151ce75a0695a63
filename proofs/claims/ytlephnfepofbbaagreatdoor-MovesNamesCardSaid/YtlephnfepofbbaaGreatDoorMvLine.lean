/-
  parseStep: a line, word by word.
-/
import Derived.Test.YtlephnfepofbbaaGreatDoorMvLineM
import Derived.Test.YtlephnfepofbbaaGreatDoorMvOrder
namespace Go.Proofs.YtlephnfepofbbaaGreatDoor
open Go.RowKit Go.Shelf Go.Maps Go.ChangeMaps

attribute [local go_sem] Oper.semAt_some

/-- What parseStep returns. -/
def LineR (w : World) (o : Option St) (e : Ending) (w' : World) : Prop := Below w.heap.size w w' ∧ match o with
  | some x => ∃ ov mvv, e = .returned (.tuple #[.agg #[.int .u64 (x.t : Int), .bool x.intr, ov, mvv], .bool true]) ∧ Rws w.heap.size ov mvv (.slice none 0 0) x.ord x.mv [] w'
  | none => e = .returned (.tuple #[.agg #[.int .u64 0, .bool false, .slice none 0 0, .slice none 0 0], .bool false])
/-- A step laid into the result. -/
def lay4 (W : World) (h : Nat) (a b c d : Value) : World := (((W.setCell ⟨h, 0, none⟩ a).setCell ⟨h, 1, none⟩ b).setCell ⟨h, 2, none⟩ c).setCell ⟨h, 3, none⟩ d
theorem lay4_ends {W : World} {h D : Nat} {p q r u : Value} (hb : Blk W h 36 #[p, q, r, u]) (hK : W.heap[D]? = some (.deferred (some []))) (a b c d : Value) :
    (lay4 W h a b c d).heap[D]? = some (.deferred (some [])) ∧ Blk ((lay4 W h a b c d).putObj D (.deferred none)) h 36 #[a, b, c, d] ∧ (∀ B w, B ≤ h → B ≤ D → Below B w W → Below B w ((lay4 W h a b c d).putObj D (.deferred none))) := by
  have k1 : (lay4 W h a b c d).heap[D]? = some (.deferred (some [])) := ((((KeepsOthers.setCell W _ _).trans (KeepsOthers.setCell _ _ _)).trans (KeepsOthers.setCell _ _ _)).trans (KeepsOthers.setCell _ _ _)).same D _ hK rfl
  have b1 : Blk (lay4 W h a b c d) h 36 #[a, b, c, d] := by simpa [lay4] using (((hb.set_ 0 a).set_ 1 b).set_ 2 c).set_ 3 d
  refine ⟨k1, blk_put b1 (grownBy_putObj' _ D (.deferred none)) (fun r e => by cases e; exact ⟨_, k1, rfl⟩), fun B w hh hD hB => ?_⟩
  have b2 : Below B w (lay4 W h a b c d) := (((hB.setCell (by exact hh) a).setCell (by exact hh) b).setCell (by exact hh) c).setCell (by exact hh) d
  refine b2.grown (grownBy_putObj' _ D (.deferred none)) ?_ (fun k e => by cases e; exact hD)
  have := (Array.getElem?_eq_some_iff.1 k1).1
  omega
theorem rdLine_next {l : List UInt8} {r : Rd} (h : rdAll (splitB 32 l) rd0 = some r) (hn : r.next < 3 ∨ 5 < r.next) : rdLine l = none := by
  unfold rdLine; rw [h]; simp only []; rw [if_neg (by omega)]
theorem rdLine_bad {l : List UInt8} {r : Rd} (h : rdAll (splitB 32 l) rd0 = some r) (hn : stOk r.st = false) : rdLine l = none := by
  unfold rdLine; rw [h]; simp only []; rw [if_neg (fun e => by rw [hn] at e; cases e.2.2)]
theorem rdLine_ok {l : List UInt8} {r : Rd} (h : rdAll (splitB 32 l) rd0 = some r) (hn : 3 ≤ r.next ∧ r.next ≤ 5) (hk : stOk r.st = true) : rdLine l = some r.st := by
  unfold rdLine; rw [h]; simp only []; rw [if_pos ⟨hn.1, hn.2, hk⟩]
theorem rdLine_none {l : List UInt8} (h : rdAll (splitB 32 l) rd0 = none) : rdLine l = none := by unfold rdLine; rw [h]
set_option maxRecDepth 100000 in
set_option maxHeartbeats 8000000 in
theorem pstep_any (s : ByteArray) (hs : s.size ≤ 20000000) (w : World) (hE : Env w.heap.size w) :
    Calls Tryz.prog 35 #[.string s] w (LineR w (rdLine s.data.toList)) := by
  refine (callsIn_wide (n := 4)).1 ?_
  obtain ⟨Y, hY⟩ : ∃ Y, (w.alloc (.cells #[.int .u64 0, .bool false, .slice none 0 0, .slice none 0 0] 36)).alloc (.cells #[.int .i64 0, .int .u64 0, .bool false, .slice none 0 0, .slice none 0 0, .int .i64 0, .int .i64 0, .int .i64 0, .slice none 0 0] 127) = Y := ⟨_, rfl⟩
  have hYb : Below w.heap.size w Y := by rw [← hY]; exact ((Below.refl _ w).alloc (Nat.le_refl _) _).alloc (by simp) _
  have hYsz : Y.heap.size = w.heap.size + 1 + 1 := by rw [← hY]; simp
  have y1 : Blk Y w.heap.size 36 #[.int .u64 0, .bool false, .slice none 0 0, .slice none 0 0] := by rw [← hY]; exact (Blk.new w _ _).alloc _
  have y2 : Blk Y (w.heap.size + 1) 127 #[.int .i64 0, .int .u64 0, .bool false, .slice none 0 0, .slice none 0 0, .int .i64 0, .int .i64 0, .int .i64 0, .slice none 0 0] := by
    rw [← hY]
    have := Blk.new (w.alloc (.cells #[.int .u64 0, .bool false, .slice none 0 0, .slice none 0 0] 36)) 127 #[.int .i64 0, .int .u64 0, .bool false, .slice none 0 0, .slice none 0 0, .int .i64 0, .int .i64 0, .int .i64 0, .slice none 0 0]
    simpa using this
  have HY := Lib.hid hY
  have HE := Lib.hid hE
  have HS := Lib.hid hs
  clear hY hs
  refine callsIn_of_wp_marks Tryz.func35 rfl trivial ?_ rfl
  simp only [Tryz.ntmps35, List.size_toArray, List.length_cons, List.length_nil, Nat.reduceAdd, Nat.reduceSub, Array.replicate_succ, Array.replicate_zero, List.push_toArray, List.append_toArray, List.nil_append, List.cons_append]
  gi_wp2
  refine wpIn_wide.2 (wp_scope_straight ((wpIn_wide (n := 4)).1 ?_))
  gi_wp2
  rw [HY.out]
  refine wpIn_label ?_
  gi_wp2_with (refine ⟨trivial, ?_⟩; gi_at_call 73; refine (callsIn_wide.2 (splitSeq_all 32 s _)).mono ?_; rintro e Z ⟨Bp, Bs, Bn, rfl, hbx, hge, hdf, hb⟩)
  obtain ⟨g1, g2, g3⟩ := hge
  rw [hYsz] at g1 g2 g3
  have hZb := below_endL hYb hb
  have z1 : Blk Z w.heap.size 36 #[.int .u64 0, .bool false, .slice none 0 0, .slice none 0 0] := y1.same (hb.block _ y1.lt)
  have z2 := y2.same (hb.block _ y2.lt)
  have hZz := hb.size
  rw [hYsz] at hZz
  have hbx1 := hbx.1.lt
  have hbx2 := hbx.2.1.lt
  have hbx3 := hbx.2.2.lt
  have hEz : RdE Z.heap.size (w.heap.size + 1) Z := ⟨by omega, Nat.le_refl _, (HE.out.below hZb).more (Nat.le_succ _) (by omega)⟩
  have hI0 : LnI Z.heap.size (w.heap.size + 1) w.heap.size Z [] Z :=
    ⟨.inl ⟨rd0, fun rest => rfl, ⟨by decide, fun _ => rfl, fun h => by simp [rd0] at h, fun h => by simp [rd0] at h, fun h => by simp [rd0] at h, fun h => by simp [rd0] at h, fun h => by simp [rd0] at h, by decide, fun m hm => by simp [rd0, default] at hm, by decide⟩, ⟨by simp [rd0, default], by simp [rd0, default]⟩, _, _, _, z2, ⟨RowK.own_nil _ _, ⟨[], rfl, RowK.own_nil _ _, fun p hp => by cases hp⟩, OwB.nil _ _⟩⟩, z1, Below.refl _ _⟩
  have HEz := Lib.hid hEz
  clear y1 y2 z1 z2 hYb hb HY hYsz hE hEz
  refine rangeFunc_box (n := 4) (by omega) (gf := 137) (lb := #[.pointer (some ⟨Bp, 0, none⟩), .pointer (some ⟨Bs, 0, none⟩), .pointer (some ⟨Bn, 0, none⟩)]) rfl (enters_of Tryz.func137 (by kernel_rfl) rfl)
    (split_box 32 3 (by omega) Bp Bs Bn hdf s HS.out Z hbx) (fun h k => h.trans k) (fun W l o o' hl _ _ _ => Kp3.put hbx1 hbx2 hbx3 W l o' hl) (fun _ => rfl)
    (LnI Z.heap.size (w.heap.size + 1) w.heap.size Z) (LnX Z.heap.size (w.heap.size + 1) w.heap.size Z)
    (lnI_own _ _ _ _ Z (by omega) (Nat.le_refl _)) (lnX_own _ _ _ _ Z (by omega) (Nat.le_refl _))
    (fun pre A v hs => by
      obtain ⟨h1, h2, h3⟩ := hs
      refine ⟨?_, h2.far (by show w.heap.size ≠ Bs; omega) _, h3.setCell (by show w.heap.size + 1 ≤ Bs; omega) _⟩
      rcases h1 with ⟨r, a, b, c, d⟩ | ⟨a, cs, b, c, d⟩
      · exact .inl ⟨r, a, b, c, d.far hbx2 (by omega) 0 v⟩
      · exact .inr ⟨a, cs, b.far (by show w.heap.size + 1 ≠ Bs; omega) v, c, d⟩)
    hI0 ?act ?assign ?body ?done ?stop
  case assign =>
    intro l x W K hK
    gi_wp2
    exact hK
  case body =>
    rintro lp pre x W ⟨hcase, hres, hF⟩
    have p1 : Bp < Z.heap.size ∧ Bp ≠ w.heap.size + 1 := ⟨hbx1, by omega⟩
    have p2 : Bs < Z.heap.size ∧ Bs ≠ w.heap.size + 1 := ⟨hbx2, by omega⟩
    have p3 : Bn < Z.heap.size ∧ Bn ≠ w.heap.size + 1 := ⟨hbx3, by omega⟩
    have ph : w.heap.size < Z.heap.size ∧ w.heap.size ≠ w.heap.size + 1 := ⟨by omega, by omega⟩
    have hRE : RdE Z.heap.size (w.heap.size + 1) W := ⟨HEz.out.lt, Nat.le_trans HEz.out.le hF.size, HEz.out.env.below hF⟩
    rcases hcase with ⟨⟨nx, st, mv⟩, hr, hI, hL, hM⟩ | ⟨hno, cs, hb, hsz, h9⟩
    · have hEnd : ∀ w1 e, MethR Z.heap.size (w.heap.size + 1) nx W (rdW ⟨nx, st, mv⟩ x.1.data.toList) e w1 → ∃ v cs, e = .returned (.int .i64 v) ∧ Blk w1 (w.heap.size + 1) 127 cs ∧ cs.size = 9 ∧
          Hid (KeepsOthers W (w1.setCell ⟨w.heap.size + 1, 0, none⟩ (.int .i64 v)) ∧ Kp3 Bp Bs Bn W (w1.setCell ⟨w.heap.size + 1, 0, none⟩ (.int .i64 v)) ∧ LnI Z.heap.size (w.heap.size + 1) w.heap.size Z (pre ++ [x]) (w1.setCell ⟨w.heap.size + 1, 0, none⟩ (.int .i64 v))) := fun w1 e hm => by
        cases ho : rdW ⟨nx, st, mv⟩ x.1.data.toList with
        | none =>
          rw [ho] at hm
          obtain ⟨f, rfl, hx⟩ := hm
          obtain ⟨cs, c1, c2⟩ := id hx
          exact ⟨9, cs, rfl, c1, c2, ln_none ph p1 p2 p3 hr ho hres hF (by omega) (by omega) f hx⟩
        | some r' =>
          rw [ho] at hm
          obtain ⟨f, rfl, hx⟩ := hm
          obtain ⟨cs, c1, c2⟩ := hx.x
          exact ⟨_, cs, rfl, c1, c2, ln_some (by omega) ph p1 p2 p3 hr hI hL ho hres hF (by omega) (by omega) f hx⟩
      have HEnd := Lib.hid hEnd
      have c0 : W.cell? ⟨w.heap.size + 1, 0, none⟩ = some (.int .i64 (nx : Int)) := by
        obtain ⟨ov, mvv, dv, b1, r1⟩ := hM
        exact b1.cell 0
      have hxs : x.1.size ≤ 20000000 := x.2
      have hle : nx ≤ 8 := hI.le
      obtain ⟨F, hF2, HC⟩ : ∃ F, (F = if nx = 0 then 74 else if nx = 1 then 75 else if nx = 2 then 76 else if 6 ≤ nx then 77 else 78) ∧ Hid (Calls Tryz.prog F #[.pointer (some ⟨w.heap.size + 1, 0, none⟩), .string x.1] W (MethR Z.heap.size (w.heap.size + 1) nx W (rdW ⟨nx, st, mv⟩ x.1.data.toList))) := by
        refine ⟨_, rfl, ?_⟩
        have hc : nx = 0 ∨ nx = 1 ∨ nx = 2 ∨ (nx = 3 ∨ nx = 4 ∨ nx = 5) ∨ nx = 6 ∨ nx = 7 ∨ nx = 8 := by omega
        rcases hc with rfl | rfl | rfl | hc | rfl | rfl | rfl
        · exact start_any _ _ st mv x.1 W hM
        · exact ticks_any _ _ st mv x.1 hxs W hRE hM
        · exact order_any _ _ st mv x.1 hxs hL.1 W hRE hM
        · rw [if_neg (by omega), if_neg (by omega), if_neg (by omega), if_neg (by omega)]
          exact part_any _ _ nx hc st mv hL.2 x.1 W hRE hM
        · exact field6_any _ _ st mv (by have h6 := hI.six rfl; unfold hasW at h6; simp at h6; omega) hL.2 x.1 hxs W hRE hM
        · exact field7_any _ _ st mv (by have h6 := hI.seven rfl; unfold hasN at h6; simp at h6; omega) hL.2 x.1 hxs W hRE hM
        · exact field8_any _ _ st mv (by have h6 := hI.eight rfl; simp only [] at h6; omega) hL.2 x.1 hxs W hRE hM
      clear hEnd hr hI hL hM hRE hF hres
      have hc : nx = 0 ∨ nx = 1 ∨ nx = 2 ∨ nx = 3 ∨ nx = 4 ∨ nx = 5 ∨ nx = 6 ∨ nx = 7 ∨ nx = 8 := by omega
      have HG := Lib.hid (And.intro p1 (And.intro p2 (And.intro p3 (And.intro ph (And.intro hZz (And.intro hbx1 (And.intro hbx2 hbx3)))))))
      clear p1 p2 p3 ph hZz hbx1 hbx2 hbx3 hI0 hbx hdf hZb g1 g2 g3 hle hxs
      rcases hc with rfl | rfl | rfl | rfl | rfl | rfl | rfl | rfl | rfl
      all_goals
        simp at hF2
        subst hF2
        gi_wp2_with (refine ⟨trivial, ?_⟩; (first | gi_at_call 74 | gi_at_call 75 | gi_at_call 76 | gi_at_call 77 | gi_at_call 78); refine (CallsIn.inRound lp (callsIn_wide.2 HC.out)).mono ?_; rintro e w1 hm; obtain ⟨v, cs, rfl, cb, cz, HK⟩ := HEnd.out w1 e hm; obtain ⟨u, hu⟩ : ∃ u, cs[0]? = some u := ⟨_, Array.getElem?_eq_getElem (by omega)⟩; have k0 := (cb.cell 0).trans hu; have kf := cb.frozen 0; have kl := cb.lt; clear hm cb cz hu)
        exact HK.out
    · have c0 : W.cell? ⟨w.heap.size + 1, 0, none⟩ = some (.int .i64 9) := (hb.cell 0).trans h9
      have HX : Hid (LnX Z.heap.size (w.heap.size + 1) w.heap.size Z (.exit 0) (pre ++ [x]) W) := Lib.hid ⟨rfl, fun rest => by rw [lstOf_snoc, List.append_assoc]; exact hno _, ⟨cs, hb, hsz, h9⟩, hres, hF⟩
      clear hno hb hsz h9 hres hF hRE
      gi_wp2
      exact ⟨KeepsOthers.refl _, HX.out⟩
  case done =>
    rintro D ys W hD hys ⟨hcase, hres, hF⟩ hK
    rcases hcase with ⟨⟨nx, st, mv⟩, hr, hI, hL, hM⟩ | ⟨hno, cs, hb, hsz, h9⟩
    · have hall : rdAll (splitB 32 s.data.toList) rd0 = some ⟨nx, st, mv⟩ := by
        have h := hr []
        rw [List.append_nil, hys] at h
        exact h
      obtain ⟨ov, mvv, dv, b1, rw1⟩ := hM
      have c0 : W.cell? ⟨w.heap.size + 1, 0, none⟩ = some (.int .i64 (nx : Int)) := b1.cell 0
      by_cases n3 : nx < 3
      · have hp := rdLine_next hall (.inl n3)
        have n3' : (nx : Int) < 3 := by omega
        clear hall hr hI hL b1 rw1 n3
        obtain ⟨e1, e2, e3⟩ := lay4_ends hres hK (.int .u64 0) (.bool false) (.slice none 0 0) (.slice none 0 0)
        have HR : Hid (LineR w (rdLine s.data.toList) (.returned (.tuple #[.agg #[.int .u64 0, .bool false, .slice none 0 0, .slice none 0 0], .bool false])) ((lay4 W w.heap.size (.int .u64 0) (.bool false) (.slice none 0 0) (.slice none 0 0)).putObj D (.deferred none))) := Lib.hid (by
          rw [hp]
          exact ⟨e3 _ _ (Nat.le_refl _) (by omega) (hZb.trans (hF.mono (by omega))), rfl⟩)
        have HE1 := Lib.hid e1
        have HE2 := Lib.hid e2
        have r0 := hres.cell 0
        have r1 := hres.cell 1
        have r2 := hres.cell 2
        have r3 := hres.cell 3
        have q0 := hres.frozen 0
        have q1 := hres.frozen 1
        have q2 := hres.frozen 2
        have q3 := hres.frozen 3
        clear hp hres hF e1 e2 e3 hK
        gi_wp2_with (refine ⟨trivial, ?_⟩)
        refine ⟨by simp, .inl ⟨_, _, rfl, run_takeDeferred HE1.out, ?_⟩⟩
        refine ⟨.tuple #[.agg #[.int .u64 0, .bool false, .slice none 0 0, .slice none 0 0], .bool false], ?_, HR.out⟩
        have d0 := HE2.out.cell 0
        have d1 := HE2.out.cell 1
        have d2 := HE2.out.cell 2
        have d3 := HE2.out.cell 3
        unfold lay4 at d0 d1 d2 d3
        simp [results, Tryz.results35, go_sem, d0, d1, d2, d3]
      have n3' : ¬ (nx : Int) < 3 := by omega
      by_cases n5 : 5 < nx
      · have hp := rdLine_next hall (.inr n5)
        have n5' : (5 : Int) < (nx : Int) := by omega
        clear hall hr hI hL b1 rw1 n5 n3
        obtain ⟨e1, e2, e3⟩ := lay4_ends hres hK (.int .u64 0) (.bool false) (.slice none 0 0) (.slice none 0 0)
        have HR : Hid (LineR w (rdLine s.data.toList) (.returned (.tuple #[.agg #[.int .u64 0, .bool false, .slice none 0 0, .slice none 0 0], .bool false])) ((lay4 W w.heap.size (.int .u64 0) (.bool false) (.slice none 0 0) (.slice none 0 0)).putObj D (.deferred none))) := Lib.hid (by
          rw [hp]
          exact ⟨e3 _ _ (Nat.le_refl _) (by omega) (hZb.trans (hF.mono (by omega))), rfl⟩)
        have HE1 := Lib.hid e1
        have HE2 := Lib.hid e2
        have r0 := hres.cell 0
        have r1 := hres.cell 1
        have r2 := hres.cell 2
        have r3 := hres.cell 3
        have q0 := hres.frozen 0
        have q1 := hres.frozen 1
        have q2 := hres.frozen 2
        have q3 := hres.frozen 3
        clear hp hres hF e1 e2 e3 hK
        gi_wp2_with (refine ⟨trivial, ?_⟩)
        refine ⟨by simp, .inl ⟨_, _, rfl, run_takeDeferred HE1.out, ?_⟩⟩
        refine ⟨.tuple #[.agg #[.int .u64 0, .bool false, .slice none 0 0, .slice none 0 0], .bool false], ?_, HR.out⟩
        have d0 := HE2.out.cell 0
        have d1 := HE2.out.cell 1
        have d2 := HE2.out.cell 2
        have d3 := HE2.out.cell 3
        unfold lay4 at d0 d1 d2 d3
        simp [results, Tryz.results35, go_sem, d0, d1, d2, d3]
      have n5' : ¬ (5 : Int) < (nx : Int) := by omega
      have hEnv : Env (w.heap.size + 1) W := HEz.out.env.below hF
      have hck := check_any st ov mvv W hEnv.f rw1.step
      have hst := rw1.step
      obtain ⟨E, e2, F, f2, rfl, rfl⟩ := hst.forms
      have c1 := b1.cell 1
      have c2 := b1.cell 2
      have c3 := b1.cell 3
      have c4 := b1.cell 4
      cases hok : stOk st with
      | true =>
        have hz : chkE st = 0 := by unfold chkE; rw [if_pos hok]
        rw [hz] at hck
        have hp := rdLine_ok hall ⟨by show 3 ≤ nx; omega, by show nx ≤ 5; omega⟩ hok
        have HCK := Lib.hid hck
        have HFin : Hid (∀ W1, Below W.heap.size W W1 → Blk W1 w.heap.size 36 #[.int .u64 0, .bool false, .slice none 0 0, .slice none 0 0] ∧ Blk W1 (w.heap.size + 1) 127 #[.int .i64 (nx : Int), .int .u64 (st.t : Int), .bool st.intr, .slice E st.ord.length e2, .slice F st.mv.length f2, .int .i64 mv.op, .int .i64 mv.wire, .int .i64 mv.n, dv] ∧
            (lay4 W1 w.heap.size (.int .u64 (st.t : Int)) (.bool st.intr) (.slice E st.ord.length e2) (.slice F st.mv.length f2)).heap[D]? = some (.deferred (some [])) ∧
            Blk ((lay4 W1 w.heap.size (.int .u64 (st.t : Int)) (.bool st.intr) (.slice E st.ord.length e2) (.slice F st.mv.length f2)).putObj D (.deferred none)) w.heap.size 36 #[.int .u64 (st.t : Int), .bool st.intr, .slice E st.ord.length e2, .slice F st.mv.length f2] ∧
            LineR w (rdLine s.data.toList) (.returned (.tuple #[.agg #[.int .u64 (st.t : Int), .bool st.intr, .slice E st.ord.length e2, .slice F st.mv.length f2], .bool true])) ((lay4 W1 w.heap.size (.int .u64 (st.t : Int)) (.bool st.intr) (.slice E st.ord.length e2) (.slice F st.mv.length f2)).putObj D (.deferred none))) := Lib.hid (fun W1 hb1 => by
          have q1 := hres.same (hb1.block _ hres.lt)
          have q2 := b1.same (hb1.block _ b1.lt)
          have q3 : W1.heap[D]? = some (.deferred (some [])) := (keeps_under hb1).same D _ hK rfl
          obtain ⟨k1, k2, k3⟩ := lay4_ends q1 q3 (.int .u64 (st.t : Int)) (.bool st.intr) (.slice E st.ord.length e2) (.slice F st.mv.length f2)
          refine ⟨q1, q2, k1, k2, ?_⟩
          rw [hp]
          refine ⟨k3 _ _ (Nat.le_refl _) (by omega) (below_endL (hZb.trans (hF.mono (by omega))) hb1), _, _, rfl, ?_⟩
          have r1 := rw1.below hb1
          have r2 : Rws Z.heap.size (.slice E st.ord.length e2) (.slice F st.mv.length f2) dv st.ord st.mv mv.b (lay4 W1 w.heap.size (.int .u64 (st.t : Int)) (.bool st.intr) (.slice E st.ord.length e2) (.slice F st.mv.length f2)) := (((r1.set (by omega) _ _).set (by omega) _ _).set (by omega) _ _).set (by omega) _ _
          exact (r2.put (grownBy_putObj' _ D (.deferred none)) (fun r e => by cases e; exact ⟨_, k1, rfl⟩)).more (by omega))
        clear hz hck hp hall hr hI hL b1 rw1 hst hEnv hok n3 n5 hres hF hK
        gi_wp2_with (refine ⟨trivial, ?_⟩; gi_at_call 9; refine (callsIn_wide.2 HCK.out).mono ?_; rintro e W1 ⟨rfl, hb1⟩; obtain ⟨q1, q2, hfin⟩ := HFin.out W1 hb1; have HFI := Lib.hid hfin; have r0 := q1.cell 0; have r1 := q1.cell 1; have r2 := q1.cell 2; have r3 := q1.cell 3; have u0 := q1.frozen 0; have u1 := q1.frozen 1; have u2 := q1.frozen 2; have u3 := q1.frozen 3; have d1 := q2.cell 1; have d2 := q2.cell 2; have d3 := q2.cell 3; have d4 := q2.cell 4; clear q1 q2 hfin hb1)
        refine ⟨by simp, .inl ⟨_, _, rfl, run_takeDeferred HFI.out.1, ?_⟩⟩
        refine ⟨.tuple #[.agg #[.int .u64 (st.t : Int), .bool st.intr, .slice E st.ord.length e2, .slice F st.mv.length f2], .bool true], ?_, HFI.out.2.2⟩
        have d0 := HFI.out.2.1.cell 0
        have d1 := HFI.out.2.1.cell 1
        have d2 := HFI.out.2.1.cell 2
        have d3 := HFI.out.2.1.cell 3
        unfold lay4 at d0 d1 d2 d3
        simp [results, Tryz.results35, go_sem, d0, d1, d2, d3]
      | false =>
        have hz : chkE st = 120 := by unfold chkE; rw [if_neg (by rw [hok]; simp)]
        rw [hz] at hck
        have hp := rdLine_bad hall hok
        have HCK := Lib.hid hck
        have HFin : Hid (∀ W1, Below W.heap.size W W1 → Blk W1 w.heap.size 36 #[.int .u64 0, .bool false, .slice none 0 0, .slice none 0 0] ∧
            (lay4 W1 w.heap.size (.int .u64 0) (.bool false) (.slice none 0 0) (.slice none 0 0)).heap[D]? = some (.deferred (some [])) ∧
            Blk ((lay4 W1 w.heap.size (.int .u64 0) (.bool false) (.slice none 0 0) (.slice none 0 0)).putObj D (.deferred none)) w.heap.size 36 #[.int .u64 0, .bool false, .slice none 0 0, .slice none 0 0] ∧
            LineR w (rdLine s.data.toList) (.returned (.tuple #[.agg #[.int .u64 0, .bool false, .slice none 0 0, .slice none 0 0], .bool false])) ((lay4 W1 w.heap.size (.int .u64 0) (.bool false) (.slice none 0 0) (.slice none 0 0)).putObj D (.deferred none))) := Lib.hid (fun W1 hb1 => by
          have q1 := hres.same (hb1.block _ hres.lt)
          have q3 : W1.heap[D]? = some (.deferred (some [])) := (keeps_under hb1).same D _ hK rfl
          obtain ⟨k1, k2, k3⟩ := lay4_ends q1 q3 (.int .u64 0) (.bool false) (.slice none 0 0) (.slice none 0 0)
          refine ⟨q1, k1, k2, ?_⟩
          rw [hp]
          exact ⟨k3 _ _ (Nat.le_refl _) (by omega) (below_endL (hZb.trans (hF.mono (by omega))) hb1), rfl⟩)
        clear hz hck hp hall hr hI hL b1 rw1 hst hEnv hok n3 n5 hres hF hK
        gi_wp2_with (refine ⟨trivial, ?_⟩; gi_at_call 9; refine (callsIn_wide.2 HCK.out).mono ?_; rintro e W1 ⟨rfl, hb1⟩; obtain ⟨q1, hfin⟩ := HFin.out W1 hb1; have HFI := Lib.hid hfin; have r0 := q1.cell 0; have r1 := q1.cell 1; have r2 := q1.cell 2; have r3 := q1.cell 3; have u0 := q1.frozen 0; have u1 := q1.frozen 1; have u2 := q1.frozen 2; have u3 := q1.frozen 3; clear q1 hfin hb1)
        refine ⟨by simp, .inl ⟨_, _, rfl, run_takeDeferred HFI.out.1, ?_⟩⟩
        refine ⟨.tuple #[.agg #[.int .u64 0, .bool false, .slice none 0 0, .slice none 0 0], .bool false], ?_, HFI.out.2.2⟩
        have d0 := HFI.out.2.1.cell 0
        have d1 := HFI.out.2.1.cell 1
        have d2 := HFI.out.2.1.cell 2
        have d3 := HFI.out.2.1.cell 3
        unfold lay4 at d0 d1 d2 d3
        simp [results, Tryz.results35, go_sem, d0, d1, d2, d3]
    · have hp : rdLine s.data.toList = none := by
        have h := hno []
        rw [List.append_nil, hys] at h
        exact rdLine_none h
      have c0 := (hb.cell 0).trans h9
      clear hno hb hsz h9
      obtain ⟨e1, e2, e3⟩ := lay4_ends hres hK (.int .u64 0) (.bool false) (.slice none 0 0) (.slice none 0 0)
      have HR : Hid (LineR w (rdLine s.data.toList) (.returned (.tuple #[.agg #[.int .u64 0, .bool false, .slice none 0 0, .slice none 0 0], .bool false])) ((lay4 W w.heap.size (.int .u64 0) (.bool false) (.slice none 0 0) (.slice none 0 0)).putObj D (.deferred none))) := Lib.hid (by
        rw [hp]
        exact ⟨e3 _ _ (Nat.le_refl _) (by omega) (hZb.trans (hF.mono (by omega))), rfl⟩)
      have HE1 := Lib.hid e1
      have HE2 := Lib.hid e2
      have r0 := hres.cell 0
      have r1 := hres.cell 1
      have r2 := hres.cell 2
      have r3 := hres.cell 3
      have q0 := hres.frozen 0
      have q1 := hres.frozen 1
      have q2 := hres.frozen 2
      have q3 := hres.frozen 3
      clear hp hres hF e1 e2 e3 hK
      gi_wp2_with (refine ⟨trivial, ?_⟩)
      refine ⟨by simp, .inl ⟨_, _, rfl, run_takeDeferred HE1.out, ?_⟩⟩
      refine ⟨.tuple #[.agg #[.int .u64 0, .bool false, .slice none 0 0, .slice none 0 0], .bool false], ?_, HR.out⟩
      have d0 := HE2.out.cell 0
      have d1 := HE2.out.cell 1
      have d2 := HE2.out.cell 2
      have d3 := HE2.out.cell 3
      unfold lay4 at d0 d1 d2 d3
      simp [results, Tryz.results35, go_sem, d0, d1, d2, d3]
  case stop =>
    rintro D c pre W hD hpre ⟨rfl, hno, ⟨cs, hb, hsz, h9⟩, hres, hF⟩ hK
    have hp : rdLine s.data.toList = none := by
      obtain ⟨rest, hq⟩ := hpre
      have h := hno rest
      rw [hq] at h
      exact rdLine_none h
    obtain ⟨e1, e2, e3⟩ := lay4_ends hres hK (.int .u64 0) (.bool false) (.slice none 0 0) (.slice none 0 0)
    have HR : Hid (LineR w (rdLine s.data.toList) (.returned (.tuple #[.agg #[.int .u64 0, .bool false, .slice none 0 0, .slice none 0 0], .bool false])) ((lay4 W w.heap.size (.int .u64 0) (.bool false) (.slice none 0 0) (.slice none 0 0)).putObj D (.deferred none))) := Lib.hid (by
      rw [hp]
      exact ⟨e3 _ _ (Nat.le_refl _) (by omega) (hZb.trans (hF.mono (by omega))), rfl⟩)
    have HE1 := Lib.hid e1
    have HE2 := Lib.hid e2
    have c0 := (hb.cell 0).trans h9
    have r0 := hres.cell 0
    have r1 := hres.cell 1
    have r2 := hres.cell 2
    have r3 := hres.cell 3
    have q0 := hres.frozen 0
    have q1 := hres.frozen 1
    have q2 := hres.frozen 2
    have q3 := hres.frozen 3
    clear hp hno hpre hb hsz h9 hres hF e1 e2 e3 hK
    gi_wp2_with (refine ⟨trivial, ?_⟩)
    refine ⟨by simp, .inl ⟨_, _, rfl, run_takeDeferred HE1.out, ?_⟩⟩
    refine ⟨.tuple #[.agg #[.int .u64 0, .bool false, .slice none 0 0, .slice none 0 0], .bool false], ?_, HR.out⟩
    have d0 := HE2.out.cell 0
    have d1 := HE2.out.cell 1
    have d2 := HE2.out.cell 2
    have d3 := HE2.out.cell 3
    unfold lay4 at d0 d1 d2 d3
    simp [results, Tryz.results35, go_sem, d0, d1, d2, d3]
end Go.Proofs.YtlephnfepofbbaaGreatDoor
