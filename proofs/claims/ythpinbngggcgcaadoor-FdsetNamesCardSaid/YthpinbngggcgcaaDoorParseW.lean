/-
  Parse, the walk.
-/
import Derived.Test.YthpinbngggcgcaaDoorParse
import Derived.Test.YthpinbngggcgcaaDoorText
namespace Go.Proofs.YthpinbngggcgcaaDoor
open Go.RowKit Go.Shelf

attribute [local go_sem] Oper.semAt_some

/-- It returned this set and this error number. -/
def RetP (w : World) (a b : Nat) (er : Int) (e : Ending) (w' : World) : Prop := e = .returned (.tuple #[.agg #[.int .u32 (a : Int), .int .u32 (b : Int)], .int .i64 er]) ∧ Below w.heap.size w w'
/-- What Parse returns. -/
def RetParse (w : World) (t : ByteArray) (e : Ending) (w' : World) : Prop :=
  (parseR t.data.toList = none ∧ RetP w 0 0 11 e w') ∨ ∃ rs a b, parseR t.data.toList = some rs ∧ (a < 4294967296 ∧ b < 4294967296 ∧ ∀ n, n < 64 → hasB a b n = inR rs n) ∧ RetP w a b 0 e w'

set_option maxRecDepth 100000 in
set_option maxHeartbeats 1000000 in
theorem parse_empty (w : World) : Calls Tryd.prog 22 #[.string ⟨#[110, 111, 110, 101]⟩] w (RetP w 0 0 0) := by
  go_enter Tryd.func22, Tryd.ntmps22
  go_wp2
  exact bodyPost_ret (v := .tuple #[.agg #[.int .u32 0, .int .u32 0], .int .i64 0]) (by simp [results, Tryd.results22, go_sem]) rfl ⟨rfl, ((Below.refl _ w).alloc (Nat.le_refl _) _).alloc (by simp) _⟩

theorem bad_stores {h k a b : Nat} {A : World} (v : Vars h k a b A) (er : Int) :
    IsSet (((A.setCell ⟨h, 0, none⟩ (.int .u32 0)).setCell ⟨h, 1, none⟩ (.int .u32 0)).setCell ⟨h + 1, 0, none⟩ (.int .i64 er)) h 0 0 ∧ (((A.setCell ⟨h, 0, none⟩ (.int .u32 0)).setCell ⟨h, 1, none⟩ (.int .u32 0)).setCell ⟨h + 1, 0, none⟩ (.int .i64 er)).cell? ⟨h + 1, 0, none⟩ = some (.int .i64 er) := by
  obtain ⟨q0, q1, g0, g1⟩ := v.1
  obtain ⟨r0, r1⟩ := two_set (.int .u32 0) (.int .u32 0) q0 q1
  refine ⟨⟨(World.cell?_setCell_other _ _ _ _ (by simp)).trans r0, (World.cell?_setCell_other _ _ _ _ (by simp)).trans r1, ?_, ?_⟩, World.cell?_setCell_same _ _ _ ((World.cell?_setCell_other _ _ _ _ (by simp)).trans ((World.cell?_setCell_other _ _ _ _ (by simp)).trans v.2.1.cell))⟩
  · rw [World.frozen?_setCell, World.frozen?_setCell, World.frozen?_setCell]; exact g0
  · rw [World.frozen?_setCell, World.frozen?_setCell, World.frozen?_setCell]; exact g1
theorem keeps3 (A : World) (p q r : Addr) (u v x : Value) : KeepsOthers A (((A.setCell p u).setCell q v).setCell r x) := ((KeepsOthers.setCell _ _ _).trans (KeepsOthers.setCell _ _ _)).trans (KeepsOthers.setCell _ _ _)
theorem below3 {w A : World} (h : Below w.heap.size w A) (u v x : Value) : Below w.heap.size w (((A.setCell ⟨w.heap.size, 0, none⟩ u).setCell ⟨w.heap.size, 1, none⟩ v).setCell ⟨w.heap.size + 1, 0, none⟩ x) :=
  ((h.setCell (Nat.le_refl _) _).setCell (Nat.le_refl _) _).setCell (by show w.heap.size ≤ w.heap.size + 1; omega) _
/-- A round's state: Parse's variables; what the round has kept. -/
def EnvP (w W : World) (B1 B2 B3 k a b : Nat) (X : World) : Prop := Vars w.heap.size k a b X ∧ Below w.heap.size w X ∧ KeepsOthers W X ∧ Kp3 B1 B2 B3 W X
theorem EnvP.first {w W W1 : World} {B1 B2 B3 k a b : Nat} (v : Vars w.heap.size k a b W) (h : Below w.heap.size w W) (hb : Below W.heap.size W W1) : EnvP w W B1 B2 B3 k a b W1 :=
  ⟨v.below hb, below_endL h hb, keeps_under hb, kp3_below hb⟩
theorem EnvP.put {w W X X' : World} {B1 B2 B3 k a b a' b' : Nat} (h : EnvP w W B1 B2 B3 k a b X) (g1 : w.heap.size + 1 + 1 + 1 + 1 ≤ B1) (g2 : w.heap.size + 1 + 1 + 1 + 1 ≤ B2) (g3 : w.heap.size + 1 + 1 + 1 + 1 ≤ B3)
    (hg : X.grownBy X' (some (w.heap.size + 1 + 1))) (hs : IsSet X' (w.heap.size + 1 + 1) a' b') (hc : ∀ o : Obj, X.heap[w.heap.size + 1 + 1]? = some o → o.isCells = true) : EnvP w W B1 B2 B3 k a' b' X' :=
  ⟨h.1.put hg hs, h.2.1.grown hg h.2.1.size (fun j e => by injection e; omega), h.2.2.1.trans (KeepsOthers.of_grownBy hg (fun j o e ho => by injection e with e; subst e; exact hc o ho)), h.2.2.2.trans (kp3_grown hg (by omega) (by omega) (by omega))⟩
theorem isSet_cells {X : World} {k a b : Nat} (h : IsSet X k a b) (o : Obj) (ho : X.heap[k]? = some o) : o.isCells = true := by
  have h0 := h.1
  unfold World.cell? at h0
  simp only [ho] at h0
  cases o <;> first | rfl | (simp at h0)
theorem inR_snoc (rs : List (Nat × Nat)) (f t n : Nat) : inR (rs ++ [(f, t)]) n = (inR rs n || (decide (f ≤ n) && decide (n ≤ t))) := by unfold inR; rw [List.any_append]; simp

set_option maxRecDepth 100000 in
set_option maxHeartbeats 4000000 in
theorem parse_any (t : ByteArray) (ht : t.size ≤ 100000) (hne : t ≠ ⟨#[110, 111, 110, 101]⟩) (w : World) (hE : Errs w) : Calls Tryd.prog 22 #[.string t] w (RetParse w t) := by
  have hq : (t.toList == [110, 111, 110, 101]) = false := by
    rw [ByteArray.toList_eq, beq_eq_false_iff_ne]
    intro h
    exact hne (by rw [← h])
  have HE := Lib.hid hE
  have HT := Lib.hid ht
  clear hE ht hne
  refine (callsIn_wide (n := 4)).1 ?_
  obtain ⟨Y, hY⟩ : ∃ Y, (((w.alloc (.cells #[.int .u32 0, .int .u32 0] 25)).alloc (.cells #[.int .i64 0] 26)).alloc (.cells #[.int .u32 0, .int .u32 0] 25)).alloc (.cells #[.int .i64 0] 3) = Y := ⟨_, rfl⟩
  have hYb : Below w.heap.size w Y := by rw [← hY]; exact ((((Below.refl _ w).alloc (Nat.le_refl _) _).alloc (by simp) _).alloc (by simp; omega) _).alloc (by simp; omega) _
  have hYsz : Y.heap.size = w.heap.size + 1 + 1 + 1 + 1 := by rw [← hY]; simp
  have hYv : Vars w.heap.size 0 0 0 Y := by
    rw [← hY]
    have h1 := (((isSet_new w 0 0).grown (World.grownBy_alloc _ (.cells #[.int .i64 0] 26) none) (by simp)).grown (World.grownBy_alloc _ (.cells #[.int .u32 0, .int .u32 0] 25) none) (by simp)).grown (World.grownBy_alloc _ (.cells #[.int .i64 0] 3) none) (by simp)
    have h2 := ((Boxed.new (w.alloc (.cells #[.int .u32 0, .int .u32 0] 25)) 26 (.int .i64 0)).alloc (.cells #[.int .u32 0, .int .u32 0] 25)).alloc (.cells #[.int .i64 0] 3)
    have h3 := (isSet_new ((w.alloc (.cells #[.int .u32 0, .int .u32 0] 25)).alloc (.cells #[.int .i64 0] 26)) 0 0).grown (World.grownBy_alloc _ (.cells #[.int .i64 0] 3) none) (by simp)
    have h4 := Boxed.new (((w.alloc (.cells #[.int .u32 0, .int .u32 0] 25)).alloc (.cells #[.int .i64 0] 26)).alloc (.cells #[.int .u32 0, .int .u32 0] 25)) 3 (.int .i64 0)
    simp only [World.size_alloc] at h2 h3 h4
    exact ⟨h1, h2, h3, h4⟩
  have HY := Lib.hid hY
  clear hY
  refine callsIn_of_wp_marks Tryd.func22 rfl trivial ?_ rfl
  simp only [Tryd.ntmps22, List.size_toArray, List.length_cons, List.length_nil, Nat.reduceAdd, Nat.reduceSub, Array.replicate_succ, Array.replicate_zero, List.push_toArray, List.append_toArray, List.nil_append, List.cons_append]
  gi_wp2_with (refine ⟨trivial, ?_⟩; gi_at_call 40; refine (callsIn_wide.2 (splitSeq_all t _)).mono ?_; rintro e Z ⟨Bp, Bs, Bn, rfl, hbx, hge, hdf, hb⟩)
  rw [HY.out] at hb hge
  obtain ⟨g1, g2, g3⟩ := hge
  rw [hYsz] at g1 g2 g3
  have hv := hYv.below hb
  have hZ := below_endL hYb hb
  have hZz := hb.size
  rw [hYsz] at hZz
  have hZz' : w.heap.size ≤ Z.heap.size := by omega
  clear hYv hYb hb HY hYsz hq
  have hbx1 := hbx.1.lt
  have hbx2 := hbx.2.1.lt
  have hbx3 := hbx.2.2.lt
  refine rangeFunc_box (n := 4) (by omega) (gf := 52) (lb := #[.pointer (some ⟨Bp, 0, none⟩), .pointer (some ⟨Bs, 0, none⟩), .pointer (some ⟨Bn, 0, none⟩)]) rfl (enters_of Tryd.func52 (by kernel_rfl) rfl)
    (split_box 3 (by omega) Bp Bs Bn hdf t HT.out Z hbx) (fun h k => h.trans k) (fun W l o o' hl _ _ _ => Kp3.put hbx1 hbx2 hbx3 W l o' hl) (fun _ => rfl)
    (fun pre W => (∃ rs k a b, StP pre rs k a b ∧ Vars w.heap.size k a b W) ∧ Below w.heap.size w W)
    (fun c pre W => (c = .ret ∧ (∀ rest, parseS (lstOf pre ++ rest) 0 = none) ∧ IsSet W w.heap.size 0 0 ∧ W.cell? ⟨w.heap.size + 1, 0, none⟩ = some (.int .i64 11)) ∧ Below w.heap.size w W)
    (OwnFrom.and (Own.from (fun s A B row hs hg hr => by obtain ⟨rs, k, a, b, h1, h2⟩ := hs; exact ⟨rs, k, a, b, h1, h2.keep hg hr⟩) _) (ownFrom_below (Nat.le_refl _) hZz'))
    (fun c => OwnFrom.and (Own.from (fun s A B row hs hg hr => ⟨hs.1, hs.2.1, set_keep hs.2.2.1 hg hr, cell_kept hs.2.2.2 hg hr⟩) _) (ownFrom_below (Nat.le_refl _) hZz'))
    (fun s A v hs => by obtain ⟨⟨rs, k, a, b, h1, h2⟩, h3⟩ := hs; exact ⟨⟨rs, k, a, b, h1, h2.far Bs v (by omega)⟩, h3.setCell (by show w.heap.size ≤ Bs; omega) _⟩)
    ⟨⟨[], 0, 0, 0, stP_nil, hv⟩, hZ⟩ ?act ?assign ?body ?done ?stop
  case assign =>
    intro l x W K hK
    gi_wp2
    exact hK
  case body =>
    rintro l pre x W ⟨⟨rs, k, a, b, hst, hvr⟩, hB⟩
    have hpr := parseRun_any x.1 W (Nat.le_trans x.2 (by decide)) (HE.out.below hB)
    cases hr : runP x.1.data.toList with
    | none =>
      rw [hr] at hpr
      have HP := Lib.hid hpr
      have hbad := hst.1.bad (x := x) (fun f l h => by rw [hr] at h; cases h)
      have Hbad := Lib.hid hbad
      clear hpr hr hst hbad
      gi_wp2_with (refine ⟨trivial, ?_⟩; gi_at_call 41; refine (CallsIn.inRound l (callsIn_wide.2 HP.out)).mono ?_; rintro e W1 ⟨⟨f', l', rfl⟩, hb1⟩; have hv1 := hvr.below hb1; obtain ⟨q0, q1, g0, g1⟩ := id hv1.1; have q2 := hv1.2.1.cell; have g2 := hv1.2.1.frozen; have q5 := hv1.2.2.2.cell)
      exact ⟨(keeps_under hb1).trans (keeps3 _ _ _ _ _ _ _), ⟨rfl, Hbad.out, bad_stores hv1 11⟩, below3 (below_endL hB hb1) _ _ _⟩
    | some y =>
      obtain ⟨f, t'⟩ := y
      obtain ⟨y1, y2, _⟩ := runP_some _ _ _ hr
      rw [hr] at hpr
      have HP := Lib.hid hpr
      by_cases hk : k ≤ f
      · have hst2 := fun a' b' (h1 : a' < 4294967296) (h2 : b' < 4294967296) (h3 : ∀ n, n < 64 → hasB a' b' n = inR (rs ++ [(f, t')]) n) => (⟨hst.1.more hr hk, by omega, h1, h2, h3⟩ : StP (pre ++ [x]) (rs ++ [(f, t')]) (t' + 2) a' b')
        have Hst2 := Lib.hid hst2
        have hk' : (k : Int) ≤ (f : Int) := by omega
        obtain ⟨_, _, ha, hb, hin⟩ := hst
        have Hin := Lib.hid hin
        clear hst2 hpr hr hin
        gi_wp2_with (refine ⟨trivial, ?_⟩; gi_at_call 41; refine (CallsIn.inRound l (callsIn_wide.2 HP.out)).mono ?_; rintro e W1 ⟨rfl, hb1⟩; have henv : EnvP w W Bp Bs Bn k a b W1 := EnvP.first hvr hB hb1; have q5 := henv.1.2.2.2.cell)
        have l2 : IntKind.i64.wrap ((t' : Int) + 2) = ((t' + 2 : Nat) : Int) := by rw [IntWalk.i64_in _ (by omega)]; omega
        have hfk : decide (f < k) = false := by rw [decide_eq_false_iff_not]; omega
        rw [hfk]
        clear q5
        gi_loopw [10] (fun v wr => ∃ m a' b' : Nat, v = .int .i64 (m : Int) ∧ f ≤ m ∧ m ≤ t' + 1 ∧ Hid (a' < 4294967296 ∧ b' < 4294967296 ∧ ∀ n, n < 64 → hasB a' b' n = (inR rs n || (decide (f ≤ n) && decide (n < m)))) ∧ EnvP w W Bp Bs Bn k a' b' wr)
          (fun v _ => t' + 1 - (intOf v).toNat)
        case atStart =>
          refine ⟨f, a, b, rfl, Nat.le_refl _, by omega, ⟨ha, hb, fun n hn => ?_⟩, henv⟩
          rw [Hin.out n hn]
          have : (decide (f ≤ n) && decide (n < f)) = false := by simp
          rw [this, Bool.or_false]
        case round =>
          clear henv
          obtain ⟨m, a', b', rfl, m1, m2, Hw, he⟩ := hrel
          by_cases hm : m ≤ t'
          · have l3 : IntKind.i64.wrap ((m : Int) + 1) = ((m + 1 : Nat) : Int) := by rw [IntWalk.i64_in _ (by omega)]; omega
            have hm' : (m : Int) ≤ (t' : Int) := by omega
            have hput := put_any (w.heap.size + 1 + 1) a' b' m wr Hw.out.1 Hw.out.2.1 (by omega) he.1.2.2.1
            have Hput := Lib.hid hput
            clear hput
            gi_wp2_with (refine ⟨trivial, ?_⟩; gi_at_call 34; refine (CallsIn.inRound l (callsIn_wide.2 Hput.out)).mono ?_; rintro e W2 ⟨rfl, hs2, hg2⟩)
            go_roundw
            case rel =>
              refine ⟨m + 1, Go.Proofs.YthpinbngggcgcaaDoor.w0 a' m, Go.Proofs.YthpinbngggcgcaaDoor.w1 b' m, by go_num, by omega, by omega, ⟨w0_lt m Hw.out.1, w1_lt m Hw.out.2.1, fun n hn => ?_⟩, he.put g1 g2 g3 hg2 hs2 (isSet_cells he.1.2.2.1)⟩
              rw [hasB_with _ _ _ _ (by omega) hn, Hw.out.2.2 n hn, Bool.or_assoc]
              congr 1
              by_cases h1 : n = m
              · subst h1; simp; omega
              · have : decide (n < m) = decide (n < m + 1) := by rw [decide_eq_decide]; omega
                simp [h1, this]
            case measure => simp [intOf]; omega
          · obtain rfl : m = t' + 1 := by omega
            have hm' : ¬ ((t' + 1 : Nat) : Int) ≤ (t' : Int) := by omega
            have q5 := he.1.2.2.2.cell
            have g5 := he.1.2.2.2.frozen
            have hin2 : ∀ n, n < 64 → hasB a' b' n = inR (rs ++ [(f, t')]) n := fun n hn => by
              rw [Hw.out.2.2 n hn, inR_snoc]
              have : decide (n < t' + 1) = decide (n ≤ t') := by rw [decide_eq_decide]; omega
              rw [this]
            have Hst3 := Lib.hid (Hst2.out a' b' Hw.out.1 Hw.out.2.1 hin2)
            clear hin2
            gi_wp2
            have l4 : (t' : Int) + 2 = ((t' + 2 : Nat) : Int) := by omega
            rw [l4]
            exact ⟨he.2.2.1.trans (KeepsOthers.setCell _ _ _), he.2.2.2.trans (Kp3.set (by omega) (by omega) (by omega) _ _ _), ⟨_, _, _, _, Hst3.out, he.1.least (t' + 2)⟩, he.2.1.setCell (by show w.heap.size ≤ w.heap.size + 1 + 1 + 1; omega) _⟩
      · have hbad := hst.1.bad (x := x) (fun f l h => by rw [hr] at h; cases h; exact hk)
        have Hbad := Lib.hid hbad
        have hk' : (f : Int) < (k : Int) := by omega
        clear hpr hr hst hbad
        gi_wp2_with (refine ⟨trivial, ?_⟩; gi_at_call 41; refine (CallsIn.inRound l (callsIn_wide.2 HP.out)).mono ?_; rintro e W1 ⟨rfl, hb1⟩; have hv1 := hvr.below hb1; obtain ⟨q0, q1, g0, g1⟩ := id hv1.1; have q2 := hv1.2.1.cell; have g2 := hv1.2.1.frozen; have q5 := hv1.2.2.2.cell)
        exact ⟨(keeps_under hb1).trans (keeps3 _ _ _ _ _ _ _), ⟨rfl, Hbad.out, bad_stores hv1 11⟩, below3 (below_endL hB hb1) _ _ _⟩
  case done =>
    rintro D ys W hD hys ⟨⟨rs, k, a, b, hst, hvr⟩, hB⟩ hK
    have hp : parseR t.data.toList = some rs := by
      have h := hst.1 []
      rw [List.append_nil, hys] at h
      have e : (parseS [] k).map (rs ++ ·) = some rs := by show some (rs ++ []) = _; rw [List.append_nil]
      exact h.trans e
    have Hp := Lib.hid hp
    have Hst := Lib.hid hst.2.2
    clear hp hst hys
    obtain ⟨q0, q1, g0, g1⟩ := id hvr.1
    obtain ⟨s0, s1, _, _⟩ := id hvr.2.2.1
    have q2 := hvr.2.1.cell
    have g2 := hvr.2.1.frozen
    gi_wp2
    obtain ⟨X, hX⟩ : ∃ X, ((W.setCell ⟨w.heap.size, 0, none⟩ (.int .u32 (a : Int))).setCell ⟨w.heap.size, 1, none⟩ (.int .u32 (b : Int))).setCell ⟨w.heap.size + 1, 0, none⟩ (.int .i64 0) = X := ⟨_, rfl⟩
    obtain ⟨r0, r1⟩ := two_set (.int .u32 (a : Int)) (.int .u32 (b : Int)) q0 q1
    have hx0 : X.cell? ⟨w.heap.size, 0, none⟩ = some (.int .u32 (a : Int)) := by rw [← hX]; exact (World.cell?_setCell_other _ _ _ _ (by simp)).trans r0
    have hx1 : X.cell? ⟨w.heap.size, 1, none⟩ = some (.int .u32 (b : Int)) := by rw [← hX]; exact (World.cell?_setCell_other _ _ _ _ (by simp)).trans r1
    have hx2 : X.cell? ⟨w.heap.size + 1, 0, none⟩ = some (.int .i64 0) := by rw [← hX]; exact World.cell?_setCell_same _ _ _ ((World.cell?_setCell_other _ _ _ _ (by simp)).trans ((World.cell?_setCell_other _ _ _ _ (by simp)).trans q2))
    have hK' : X.heap[D]? = some (.deferred (some [])) := by rw [← hX]; exact (keeps3 W _ _ _ _ _ _).same D _ hK rfl
    have hBX : Below w.heap.size w X := by rw [← hX]; exact below3 hB _ _ _
    rw [hX]
    refine ⟨by simp, .inl ⟨_, _, rfl, run_takeDeferred hK', ?_⟩⟩
    have z0 := cell_kept hx0 (grownBy_putObj' _ D (.deferred none)) (fun r e => by cases e; exact ⟨_, hK', rfl⟩)
    have z1 := cell_kept hx1 (grownBy_putObj' _ D (.deferred none)) (fun r e => by cases e; exact ⟨_, hK', rfl⟩)
    have z2 := cell_kept hx2 (grownBy_putObj' _ D (.deferred none)) (fun r e => by cases e; exact ⟨_, hK', rfl⟩)
    refine ⟨.tuple #[.agg #[.int .u32 (a : Int), .int .u32 (b : Int)], .int .i64 0], ?_, .inr ⟨rs, a, b, Hp.out, Hst.out, rfl, hBX.trans (belowK_b (w := w) (Nat.le_refl _) X D _ _ (by omega) hK' rfl rfl)⟩⟩
    simp [results, Tryd.results22, go_sem, z0, z1, z2]
  case stop =>
    rintro D c pre W hD hpre ⟨⟨rfl, hno, hR, hEr⟩, hB⟩ hK
    have hp : parseR t.data.toList = none := by
      obtain ⟨rest, hq⟩ := hpre
      have h := hno rest
      rw [hq] at h
      exact h
    have Hp := Lib.hid hp
    clear hp hno hpre
    gi_wp2
    refine ⟨by simp, .inl ⟨_, _, rfl, run_takeDeferred hK, ?_⟩⟩
    have z0 := cell_kept hR.1 (grownBy_putObj' _ D (.deferred none)) (fun r e => by cases e; exact ⟨_, hK, rfl⟩)
    have z1 := cell_kept hR.2.1 (grownBy_putObj' _ D (.deferred none)) (fun r e => by cases e; exact ⟨_, hK, rfl⟩)
    have z2 := cell_kept hEr (grownBy_putObj' _ D (.deferred none)) (fun r e => by cases e; exact ⟨_, hK, rfl⟩)
    refine ⟨.tuple #[.agg #[.int .u32 0, .int .u32 0], .int .i64 11], ?_, .inl ⟨Hp.out, rfl, hB.trans (belowK_b (w := w) (Nat.le_refl _) W D _ _ (by omega) hK rfl rfl)⟩⟩
    simp [results, Tryd.results22, go_sem, z0, z1, z2]
end Go.Proofs.YthpinbngggcgcaaDoor
