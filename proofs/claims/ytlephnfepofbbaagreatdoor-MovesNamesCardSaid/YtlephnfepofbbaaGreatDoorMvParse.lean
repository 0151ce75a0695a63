/-
  Parse: a text's steps, line by line.
-/
import Derived.Test.YtlephnfepofbbaaGreatDoorMvSteps
import Derived.Test.YtlephnfepofbbaaGreatDoorMvLine
import Derived.Test.YtlephnfepofbbaaGreatDoorMsBase
namespace Go.Proofs.YtlephnfepofbbaaGreatDoor
open Go.RowKit Go.Shelf Go.Maps Go.ChangeMaps

attribute [local go_sem] Oper.semAt_some

/-- What Parse returns, of both sides. -/
def ParseR (w : World) (o : Except Nat (List St)) (e : Ending) (w' : World) : Prop := Below w.heap.size w w' ∧ match o with
  | .ok l => ∃ v ps, e = .returned (.tuple #[v, .int .i64 0, .int .i64 0]) ∧ PsR w.heap.size v ps w' ∧ ps.map Ss.x = l
  | .error k => e = .returned (.tuple #[.slice none 0 0, .int .i64 (k : Int), .int .i64 121])

/-- Between two lines: the boxes at b, b + 1, b + 1 + 1. -/
def PaI (N b : Nat) (w : World) (pre : List Piece) (W : World) : Prop := ∃ ps v, (∀ rest, parseG (lstOf pre ++ rest) 0 [] = parseG rest pre.length (ps.map Ss.x)) ∧ (pre.length ≤ 2000 ∧ ps.length = pre.length) ∧
  Boxed W b 37 v ∧ Boxed W (b + 1) 3 (.int .i64 (pre.length : Int)) ∧ Boxed W (b + 1 + 1) 29 (.int .i64 0) ∧ PsR N v ps W ∧ Below b w W ∧ N ≤ W.heap.size
/-- Where the loop has been left. -/
def PaX (b : Nat) (w : World) (c : Code) (pre : List Piece) (W : World) : Prop := c = .ret ∧ (∀ rest, parseG (lstOf pre ++ rest) 0 [] = .error pre.length) ∧
  Boxed W b 37 (.slice none 0 0) ∧ Boxed W (b + 1) 3 (.int .i64 (pre.length : Int)) ∧ Boxed W (b + 1 + 1) 29 (.int .i64 121) ∧ Below b w W
theorem paI_own (N b H : Nat) (w : World) (hb : b ≤ H) (hw : b ≤ w.heap.size) : OwnFrom H (PaI N b w) := fun s A B row hs hg hr => by
  obtain ⟨ps, v, h1, h2, h3, h4, h5, h6, h7, h8⟩ := hs
  have hr2 := fun r e => (hr r e).2
  exact ⟨ps, v, h1, h2, boxed_grow h3 hg hr2, boxed_grow h4 hg hr2, boxed_grow h5 hg hr2, h6.put hg hr2, h7.grown hg (Nat.le_trans hw h7.size) (fun k e => Nat.le_trans hb (hr k e).1), Nat.le_trans h8 hg.size⟩
theorem paX_own (b H : Nat) (w : World) (hb : b ≤ H) (hw : b ≤ w.heap.size) (c : Code) : OwnFrom H (PaX b w c) := fun s A B row hs hg hr => by
  obtain ⟨h1, h2, h3, h4, h5, h7⟩ := hs
  have hr2 := fun r e => (hr r e).2
  exact ⟨h1, h2, boxed_grow h3 hg hr2, boxed_grow h4 hg hr2, boxed_grow h5 hg hr2, h7.grown hg (Nat.le_trans hw h7.size) (fun k e => Nat.le_trans hb (hr k e).1)⟩
theorem parseG_snoc {pre : List Piece} {x : Piece} {acc : List St} (h : ∀ rest, parseG (lstOf pre ++ rest) 0 [] = parseG rest pre.length acc) (rest : List (List UInt8)) :
    parseG (lstOf (pre ++ [x]) ++ rest) 0 [] = parseG (x.1.data.toList :: rest) pre.length acc := by
  rw [lstOf_snoc, List.append_assoc, h]; rfl
/-- Three stores in any order. -/
structure B3 (N b : Nat) (V W : World) (p q r : Value) : Prop where
  x : Boxed W b 37 p
  y : Boxed W (b + 1) 3 q
  z : Boxed W (b + 1 + 1) 29 r
  o : KeepsOthers V W
  l : Below b V W
  k : ∀ i, b + 1 + 1 < i → i < N → i < V.heap.size → W.heap[i]? = V.heap[i]?
section
variable {N b : Nat} {V W W' : World} {p q r : Value}
theorem B3.s0 (h : B3 N b V W p q r) (u : Value) : B3 N b V (W.setCell ⟨b, 0, none⟩ u) u q r :=
  ⟨h.x.set _, h.y.other (by omega) _, h.z.other (by omega) _, h.o.trans (KeepsOthers.setCell _ _ _), h.l.setCell (Nat.le_refl _) _, fun i h1 h2 h3 => (Below.heap_setCell _ _ _ _ (by show i ≠ b; omega)).trans (h.k i h1 h2 h3)⟩
theorem B3.s1 (h : B3 N b V W p q r) (u : Value) : B3 N b V (W.setCell ⟨b + 1, 0, none⟩ u) p u r :=
  ⟨h.x.other (by omega) _, h.y.set _, h.z.other (by omega) _, h.o.trans (KeepsOthers.setCell _ _ _), h.l.setCell (by show b ≤ b + 1; omega) _, fun i h1 h2 h3 => (Below.heap_setCell _ _ _ _ (by show i ≠ b + 1; omega)).trans (h.k i h1 h2 h3)⟩
theorem B3.s2 (h : B3 N b V W p q r) (u : Value) : B3 N b V (W.setCell ⟨b + 1 + 1, 0, none⟩ u) p q u :=
  ⟨h.x.other (by omega) _, h.y.other (by omega) _, h.z.set _, h.o.trans (KeepsOthers.setCell _ _ _), h.l.setCell (by show b ≤ b + 1 + 1; omega) _, fun i h1 h2 h3 => (Below.heap_setCell _ _ _ _ (by show i ≠ b + 1 + 1; omega)).trans (h.k i h1 h2 h3)⟩
theorem B3.under (h : B3 N b V W p q r) (k : Below W.heap.size W W') : B3 N b V W' p q r :=
  ⟨(k.block _ h.x.lt).trans h.x, (k.block _ h.y.lt).trans h.y, (k.block _ h.z.lt).trans h.z, h.o.trans (keeps_under k), h.l.trans (k.mono (Nat.le_of_lt h.x.lt)), fun i h1 h2 h3 => (k.block i (Nat.lt_of_lt_of_le h3 h.o.size)).trans (h.k i h1 h2 h3)⟩
theorem B3.row {u : Value} {xs : List Ss} (h : B3 N b V W p q r) (hown : RT.own W N u xs) (hN : b + 1 + 1 < N) (hg : W.grownBy W' u.ownBlock) : B3 N b V W' p q r := by
  have hne : ∀ k, k < N → u.ownBlock ≠ some k := fun k hk e => by have := (RowK.own_lt hown e).2; omega
  have hb : ∀ k, k < N → k < W.heap.size → W'.heap[k]? = W.heap[k]? := fun k hk hl => hg.block k hl (fun e => hne k hk e.symm)
  exact ⟨(hb _ (by omega) h.x.lt).trans h.x, (hb _ (by omega) h.y.lt).trans h.y, (hb _ hN h.z.lt).trans h.z, h.o.trans (KeepsOthers.of_grownBy hg (fun j o e ho => by
    obtain ⟨c, fz, hc⟩ := Lib.ownsRow_kind hown j e
    rw [hc] at ho; injection ho with ho; rw [← ho]; rfl)), h.l.grown hg (Nat.le_of_lt h.x.lt) (fun k e => by have := (RowK.own_lt hown e).2; omega), fun i h1 h2 h3 => (hb i h2 (Nat.lt_of_lt_of_le h3 h.o.size)).trans (h.k i h1 h2 h3)⟩
theorem keeps_drew (W : World) : KeepsOthers W W.drew := ⟨Nat.le_refl _, fun _ _ h _ => h⟩
theorem B3.d (h : B3 N b V W p q r) : B3 N b V W.drew p q r := ⟨h.x, h.y, h.z, h.o.trans (keeps_drew _), h.l.drew, h.k⟩
end
theorem PsR.alloc {N : Nat} {v : Value} {ps : List Ss} {W : World} (h : PsR N v ps W) (o : Obj) : PsR N v ps (W.alloc o) := h.far fun k _ hk => Below.heap_alloc W o k hk
set_option maxRecDepth 100000 in
set_option maxHeartbeats 8000000 in
theorem parse_any (s : ByteArray) (hs : s.size ≤ 20000000) (w : World) (hE : Env w.heap.size w) :
    Calls Tryz.prog 10 #[.string s] w (ParseR w (parseS s.data.toList)) := by
  refine (callsIn_wide (n := 4)).1 ?_
  obtain ⟨Y, hY⟩ : ∃ Y, ((w.alloc (.cells #[.slice none 0 0] 37)).alloc (.cells #[.int .i64 0] 3)).alloc (.cells #[.int .i64 0] 29) = Y := ⟨_, rfl⟩
  have hYb : Below w.heap.size w Y := by rw [← hY]; exact (((Below.refl _ w).alloc (Nat.le_refl _) _).alloc (by simp) _).alloc (by simp; omega) _
  have hYsz : Y.heap.size = w.heap.size + 1 + 1 + 1 := by rw [← hY]; simp
  have y0 : Boxed Y w.heap.size 37 (.slice none 0 0) := by rw [← hY]; exact ((Boxed.new w _ _).alloc _).alloc _
  have y1 : Boxed Y (w.heap.size + 1) 3 (.int .i64 0) := by
    rw [← hY]
    have := (Boxed.new (w.alloc (.cells #[.slice none 0 0] 37)) 3 (.int .i64 0)).alloc (.cells #[.int .i64 0] 29)
    simpa using this
  have y2 : Boxed Y (w.heap.size + 1 + 1) 29 (.int .i64 0) := by
    rw [← hY]
    have := Boxed.new ((w.alloc (.cells #[.slice none 0 0] 37)).alloc (.cells #[.int .i64 0] 3)) 29 (.int .i64 0)
    simpa using this
  have HY := Lib.hid hY
  have HE := Lib.hid hE
  have HS := Lib.hid hs
  clear hY hs
  refine callsIn_of_wp_marks Tryz.func10 rfl trivial ?_ rfl
  simp only [Tryz.ntmps10, List.size_toArray, List.length_cons, List.length_nil, Nat.reduceAdd, Nat.reduceSub, Array.replicate_succ, Array.replicate_zero, List.push_toArray, List.append_toArray, List.nil_append, List.cons_append]
  gi_wp2_with (refine ⟨trivial, ?_⟩; gi_at_call 33; rw [HY.out]; refine (callsIn_wide.2 (lines_all s _)).mono ?_; rintro e Z ⟨Bs, rfl, hbx, hge, hb⟩)
  have hZb := below_endL hYb hb
  have z0 : Boxed Z w.heap.size 37 (.slice none 0 0) := (hb.block _ y0.lt).trans y0
  have z1 : Boxed Z (w.heap.size + 1) 3 (.int .i64 0) := (hb.block _ y1.lt).trans y1
  have z2 : Boxed Z (w.heap.size + 1 + 1) 29 (.int .i64 0) := (hb.block _ y2.lt).trans y2
  have hZz := hb.size
  rw [hYsz] at hZz hge
  have hbx1 := hbx.lt
  have hI0 : PaI Z.heap.size w.heap.size w [] Z := ⟨[], .slice none 0 0, fun rest => rfl, ⟨Nat.zero_le _, rfl⟩, z0, z1, z2, PsR.nil _ _, hZb, Nat.le_refl _⟩
  clear y0 y1 y2 z0 z1 z2 hYb hb HY hYsz hE
  refine rangeFunc_dr (n := 4) (by omega) (gf := 70) (lb := #[.pointer (some ⟨Bs, 0, none⟩)]) rfl (enters_of Tryz.func70 (by kernel_rfl) rfl)
    (lines_box 3 (by omega) Bs s HS.out Z hbx) (fun h k => h.trans k) (fun W l o o' hl _ _ _ => Kp3.put hbx1 hbx1 hbx1 W l o' hl) (fun _ => rfl)
    (PaI Z.heap.size w.heap.size w) (PaX w.heap.size w) (paI_own _ _ _ w (by omega) (Nat.le_refl _)) (paX_own _ _ w (by omega) (Nat.le_refl _))
    (fun pre A v hs => by
      obtain ⟨ps, u, h1, h2, h3, h4, h5, h6, h7, h8⟩ := hs
      exact ⟨ps, u, h1, h2, h3.other (by omega) v, h4.other (by omega) v, h5.other (by omega) v, h6.set hbx1 _ _, h7.setCell (by show w.heap.size ≤ Bs; omega) v, by simpa using h8⟩)
    hI0 ?act ?assign ?body ?done ?stop
  case assign =>
    intro l x W K hK
    gi_wp2
    exact hK
  case body =>
    rintro lp pre x W ⟨ps, v, h1, ⟨h2, h2'⟩, h3, h4, h5, h6, h7, h8⟩
    obtain ⟨m, hm⟩ : ∃ m, pre.length = m := ⟨_, rfl⟩
    rw [hm] at h1 h2 h2' h4
    have c4 := h4.cell
    have f4 := h4.frozen
    have l4 := h4.lt
    have w4 : IntKind.i64.wrap ((m : Int) + 1) = ((m : Int) + 1) := IntWalk.i64_in _ (by omega)
    obtain ⟨W1, hW1⟩ : ∃ W1, W.setCell ⟨w.heap.size + 1, 0, none⟩ (.int .i64 ((m : Int) + 1)) = W1 := ⟨_, rfl⟩
    obtain ⟨T, hT⟩ : ∃ T : ByteArray, (⟨(Lib.trimSuffix x.1.data.toList [10]).toArray⟩ : ByteArray) = T := ⟨_, rfl⟩
    have hCS := Tryz.strings_CutSuffix x.1 ⟨#[10]⟩ W1 (Nat.le_trans x.2 (by decide))
    have HCS : Hid (Calls Tryz.prog 34 #[.string x.1, .string ⟨#[10]⟩] W1 fun e w' => e = .returned (.tuple #[.string T, .bool (Lib.hasSuffix x.1.data.toList [10])]) ∧ w' = W1) := Lib.hid (by rw [← hT]; exact hCS)
    have hTs : T.size ≤ 20000000 := by
      have h := x.2
      rw [← hT, Lib.size_eq]
      show (Lib.trimSuffix x.1.data.toList [10]).toArray.toList.length ≤ _
      rw [List.toList_toArray]
      unfold Lib.trimSuffix
      split
      · rw [List.length_take, ← Lib.size_eq]; omega
      · rw [← Lib.size_eq]; omega
    have hTd : T.data.toList = Lib.trimSuffix x.1.data.toList [10] := by rw [← hT]
    have b1 : B3 Z.heap.size w.heap.size W W1 v (.int .i64 ((m : Int) + 1)) (.int .i64 0) := by
      rw [← hW1]
      exact (B3.mk h3 h4 h5 (KeepsOthers.refl _) (Below.refl _ _) (fun _ _ _ _ => rfl)).s1 _
    have p1 : PsR Z.heap.size v ps W1 := by rw [← hW1]; exact h6.set (by omega) _ _
    have hEn : Env W1.heap.size W1 := ((HE.out.below h7).below b1.l).more (Nat.le_trans h7.size b1.l.size) (Nat.le_refl _)
    have hPS := pstep_any T hTs W1 hEn
    rw [hTd] at hPS
    have HPS := Lib.hid hPS
    have HW1 := Lib.hid hW1
    have hZ1 : Z.heap.size ≤ W1.heap.size := by rw [← hW1]; simpa using h8
    have HB1 := Lib.hid b1
    have HP1 := Lib.hid p1
    have HZ1 := Lib.hid hZ1
    have HG := Lib.hid (And.intro hge (And.intro hZz (And.intro hbx1 (And.intro h8 (And.intro h2 (And.intro h2' (And.intro h7 (And.intro h6 h1))))))))
    have HXX : Hid (∀ W', (∀ rest, parseG (x.1.data.toList :: rest) m (ps.map Ss.x) = .error (m + 1)) → B3 Z.heap.size w.heap.size W W' (.slice none 0 0) (.int .i64 ((m : Int) + 1)) (.int .i64 121) →
        KeepsOthers W W' ∧ PaX w.heap.size w .ret (pre ++ [x]) W') := Lib.hid (fun W' he hB => ⟨hB.o, rfl, fun rest => by
          rw [parseG_snoc (acc := ps.map Ss.x) (by rw [hm]; exact h1), hm, he, List.length_append, hm]; rfl, hB.x, by rw [List.length_append, hm]; simpa using hB.y, hB.z, h7.trans hB.l⟩)
    clear hI0 hge hZz hbx1 h8 h7 h6 h1 h2' hCS hT hTd hTs b1 p1 hEn hPS hW1 hZ1 hbx h3 h5 hZb h4
    cases ho : rdLine (Lib.trimSuffix x.1.data.toList [10]) with
    | none =>
      have HER : Hid (∀ rest, parseG (x.1.data.toList :: rest) m (ps.map Ss.x) = .error (m + 1)) := Lib.hid (fun rest => by
        unfold parseG; rw [ho])
      rw [ho] at HPS
      clear ho
      gi_wp2_with (first
        | (refine ⟨trivial, ?_⟩; rw [HW1.out]; gi_at_call 34; refine (CallsIn.inRound lp (callsIn_wide.2 HCS.out)).mono ?_; rintro e w' ⟨rfl, rfl⟩)
        | (refine ⟨trivial, ?_⟩; gi_at_call 35; refine (CallsIn.inRound lp (callsIn_wide.2 HPS.out)).mono ?_; rintro e W2 ⟨hb2, rfl⟩))
      have HB2 := Lib.hid ((HB1.out.under hb2).under ((Below.refl _ W2).alloc (Nat.le_refl _) (.cells #[.int .u64 0, .bool false, .slice none 0 0, .slice none 0 0] 36)))
      have d0 := HB2.out.x.cell
      have d1 := HB2.out.y.cell
      have d2 := HB2.out.z.cell
      have d3 := HB2.out.x.frozen
      have d4 := HB2.out.y.frozen
      have d5 := HB2.out.z.frozen
      have d6 := HB2.out.x.lt
      have d7 := HB2.out.y.lt
      have d8 := HB2.out.z.lt
      have hm2 : Tryz.prog.follows .mixedOrders = true := by kernel_rfl
      obtain ⟨W3, hW3⟩ : ∃ W3, W2.alloc (.cells #[.int .u64 0, .bool false, .slice none 0 0, .slice none 0 0] 36) = W3 := ⟨_, rfl⟩
      rw [hW3] at HB2 d0 d1 d2 d3 d4 d5 d6 d7 d8 ⊢
      clear hb2 hW3
      gi_region_with_o (fail)
      all_goals
        gi_wp2
        exact HXX.out _ HER.out (((HB2.out.s0 _).s1 _).s2 _).d
    | some y =>
      rw [ho] at HPS
      cases hsu : Lib.hasSuffix x.1.data.toList [10] with
      | false =>
        have HER : Hid (∀ rest, parseG (x.1.data.toList :: rest) m (ps.map Ss.x) = .error (m + 1)) := Lib.hid (fun rest => by
          unfold parseG; rw [ho]; simp only []; rw [if_pos (.inl hsu)])
        rw [hsu] at HCS
        clear ho hsu
        gi_wp2_with (first
          | (refine ⟨trivial, ?_⟩; rw [HW1.out]; gi_at_call 34; refine (CallsIn.inRound lp (callsIn_wide.2 HCS.out)).mono ?_; rintro e w' ⟨rfl, rfl⟩)
          | (refine ⟨trivial, ?_⟩; gi_at_call 35; refine (CallsIn.inRound lp (callsIn_wide.2 HPS.out)).mono ?_; rintro e W2 ⟨hb2, ov, mvv, rfl, hrw⟩; obtain ⟨E, e2, F, f2, rfl, rfl⟩ := hrw.step.forms; have HRW := Lib.hid hrw; have y1 := (HB1.out.under hb2).y.cell; have y2 := (HB1.out.under hb2).y.lt; have y3 := (HB1.out.under hb2).x.cell; have y4 := (HB1.out.under hb2).x.lt; have y5 := (HB1.out.under hb2).x.frozen; clear hrw))
        have HB2 := Lib.hid ((HB1.out.under hb2).under ((Below.refl _ W2).alloc (Nat.le_refl _) (.cells #[.int .u64 (y.t : Int), .bool y.intr, .slice E y.ord.length e2, .slice F y.mv.length f2] 36)))
        have d0 := HB2.out.x.cell
        have d1 := HB2.out.y.cell
        have d2 := HB2.out.z.cell
        have d3 := HB2.out.x.frozen
        have d4 := HB2.out.y.frozen
        have d5 := HB2.out.z.frozen
        have d6 := HB2.out.x.lt
        have d7 := HB2.out.y.lt
        have d8 := HB2.out.z.lt
        have hm2 : Tryz.prog.follows .mixedOrders = true := by kernel_rfl
        obtain ⟨W3, hW3⟩ : ∃ W3, W2.alloc (.cells #[.int .u64 (y.t : Int), .bool y.intr, .slice E y.ord.length e2, .slice F y.mv.length f2] 36) = W3 := ⟨_, rfl⟩
        rw [hW3] at HB2 d0 d1 d2 d3 d4 d5 d6 d7 d8 ⊢
        clear hb2 hW3
        gi_region_with_o (fail)
        all_goals
          gi_wp2
          exact HXX.out _ HER.out (((HB2.out.s0 _).s1 _).s2 _).d
      | true =>
        rw [hsu] at HCS
        by_cases h20 : m = 2000
        · have HER : Hid (∀ rest, parseG (x.1.data.toList :: rest) m (ps.map Ss.x) = .error (m + 1)) := Lib.hid (fun rest => by
            unfold parseG; rw [ho]; simp only []; rw [if_pos (.inr (by omega))])
          have h20' : (2000 : Int) < (m : Int) + 1 := by omega
          clear ho hsu h20
          gi_wp2_with (first
            | (refine ⟨trivial, ?_⟩; rw [HW1.out]; gi_at_call 34; refine (CallsIn.inRound lp (callsIn_wide.2 HCS.out)).mono ?_; rintro e w' ⟨rfl, rfl⟩)
            | (refine ⟨trivial, ?_⟩; gi_at_call 35; refine (CallsIn.inRound lp (callsIn_wide.2 HPS.out)).mono ?_; rintro e W2 ⟨hb2, ov, mvv, rfl, hrw⟩; obtain ⟨E, e2, F, f2, rfl, rfl⟩ := hrw.step.forms; have HRW := Lib.hid hrw; have y1 := (HB1.out.under hb2).y.cell; have y2 := (HB1.out.under hb2).y.lt; have y3 := (HB1.out.under hb2).x.cell; have y4 := (HB1.out.under hb2).x.lt; have y5 := (HB1.out.under hb2).x.frozen; clear hrw))
          have HB2 := Lib.hid ((HB1.out.under hb2).under ((Below.refl _ W2).alloc (Nat.le_refl _) (.cells #[.int .u64 (y.t : Int), .bool y.intr, .slice E y.ord.length e2, .slice F y.mv.length f2] 36)))
          have d0 := HB2.out.x.cell
          have d1 := HB2.out.y.cell
          have d2 := HB2.out.z.cell
          have d3 := HB2.out.x.frozen
          have d4 := HB2.out.y.frozen
          have d5 := HB2.out.z.frozen
          have d6 := HB2.out.x.lt
          have d7 := HB2.out.y.lt
          have d8 := HB2.out.z.lt
          have hm2 : Tryz.prog.follows .mixedOrders = true := by kernel_rfl
          obtain ⟨W3, hW3⟩ : ∃ W3, W2.alloc (.cells #[.int .u64 (y.t : Int), .bool y.intr, .slice E y.ord.length e2, .slice F y.mv.length f2] 36) = W3 := ⟨_, rfl⟩
          rw [hW3] at HB2 d0 d1 d2 d3 d4 d5 d6 d7 d8 ⊢
          clear hb2 hW3
          gi_region_with_o (fail)
          all_goals
            gi_wp2
            exact HXX.out _ HER.out (((HB2.out.s0 _).s1 _).s2 _).d
        · have HGO : Hid (∀ rest, parseG (x.1.data.toList :: rest) m (ps.map Ss.x) = parseG rest (m + 1) (ps.map Ss.x ++ [y])) := Lib.hid (fun rest => by
            conv => lhs; unfold parseG
            rw [ho]; simp only []
            rw [if_neg (fun e => by rcases e with e | e; (rw [hsu] at e; cases e); omega)])
          have h20' : ¬ (2000 : Int) < (m : Int) + 1 := by omega
          clear ho hsu h20
          gi_wp2_with (first
            | (refine ⟨trivial, ?_⟩; rw [HW1.out]; gi_at_call 34; refine (CallsIn.inRound lp (callsIn_wide.2 HCS.out)).mono ?_; rintro e w' ⟨rfl, rfl⟩)
            | (refine ⟨trivial, ?_⟩; gi_at_call 35; refine (CallsIn.inRound lp (callsIn_wide.2 HPS.out)).mono ?_; rintro e W2 ⟨hb2, ov, mvv, rfl, hrw⟩; obtain ⟨E, e2, F, f2, rfl, rfl⟩ := hrw.step.forms; have HRW := Lib.hid hrw; have y1 := (HB1.out.under hb2).y.cell; have y2 := (HB1.out.under hb2).y.lt; have y3 := (HB1.out.under hb2).x.cell; have y4 := (HB1.out.under hb2).x.lt; have y5 := (HB1.out.under hb2).x.frozen; clear hrw)
            | (gi_at_builtin; refine RowK.append_in (R := RT) rfl _ _ rfl Z.heap.size v ps ⟨y, E, e2, F, f2⟩ rfl (((HP1.out.below hb2).alloc _).alloc _).own rfl (fun _ => ⟨_, 0, rfl, by simp, by have h := RowK.lies_new (R := RT) (W2.alloc (.cells #[.int .u64 (y.t : Int), .bool y.intr, .slice E y.ord.length e2, .slice F y.mv.length f2] 36)) ⟨y, E, e2, F, f2⟩ 36; rw [World.size_alloc] at h; exact h⟩) (by have := HG.out; omega) (by have := HZ1.out; have := hb2.size; simp; omega) ?_; intro g cap w4 O1 hg1; have HA := Lib.hid (And.intro O1 hg1); have HB4 := Lib.hid ((((HB1.out.under hb2).under ((Below.refl _ W2).alloc (Nat.le_refl _) _)).under ((Below.refl _ _).alloc (Nat.le_refl _) _)).row (((HP1.out.below hb2).alloc _).alloc _).own (by have := HG.out; omega) hg1); clear O1 hg1; have z1 := HB4.out.x.cell; have z2 := HB4.out.x.frozen; have z3 := HB4.out.x.lt))
          have HP2 := ((HP1.out.below hb2).alloc (.cells #[.int .u64 (y.t : Int), .bool y.intr, .slice E y.ord.length e2, .slice F y.mv.length f2] 36)).alloc (.cells #[.int .u64 (y.t : Int), .bool y.intr, .slice E y.ord.length e2, .slice F y.mv.length f2] 36)
          have HR2 := ((HRW.out.more HZ1.out).alloc (.cells #[.int .u64 (y.t : Int), .bool y.intr, .slice E y.ord.length e2, .slice F y.mv.length f2] 36)).alloc (.cells #[.int .u64 (y.t : Int), .bool y.intr, .slice E y.ord.length e2, .slice F y.mv.length f2] 36)
          have B5 := HB4.out.s0 (.slice (some ⟨g, 0, none⟩) (ps.length + 1) cap)
          have P5 := (HP2.more (p := ⟨y, E, e2, F, f2⟩) HR2 HA.out.1 HA.out.2).set (q := w.heap.size) (by have := HG.out; omega) 0 (.slice (some ⟨g, 0, none⟩) (ps.length + 1) cap)
          obtain ⟨g1, g2, g3, g4, g5, g6, g7, g8, g9⟩ := HG.out
          refine ⟨B5.o, fun k hk o ho => ?_, ps ++ [⟨y, E, e2, F, f2⟩], _, fun rest => ?_, ⟨by rw [List.length_append, hm]; simp; omega, by rw [List.length_append, List.length_append, g6, hm]; rfl⟩, B5.x, by rw [List.length_append, hm]; simpa using B5.y, B5.z, P5, g7.trans B5.l, Nat.le_trans g4 B5.o.size⟩
          · have hk : k = Bs := by rcases hk with e | e | e <;> exact e
            subst hk
            rw [B5.k k (by omega) g3 (Array.getElem?_eq_some_iff.1 ho).1]; exact ho
          · rw [parseG_snoc (acc := ps.map Ss.x) (by rw [hm]; exact g9), hm, HGO.out, List.length_append, hm, List.map_append]; rfl
  case done =>
    rintro D ys W hD hys ⟨ps, v, h1, ⟨h2, h2'⟩, h3, h4, h5, h6, h7, h8⟩ hK
    have hp : parseS s.data.toList = .ok (ps.map Ss.x) := by
      rw [← parseG_eq]
      have h := h1 []
      rw [List.append_nil, hys] at h
      exact h
    have b1 : B3 Z.heap.size w.heap.size W W v (.int .i64 (ys.length : Int)) (.int .i64 0) := B3.mk h3 h4 h5 (KeepsOthers.refl _) (Below.refl _ _) (fun _ _ _ _ => rfl)
    obtain ⟨A0, n0, c0', rfl⟩ := RowK.own_slice h6.own
    have b2 := ((b1.s0 (.slice A0 n0 c0')).s1 (.int .i64 0)).s2 (.int .i64 0)
    obtain ⟨V, hV⟩ : ∃ V, ((W.setCell ⟨w.heap.size, 0, none⟩ (.slice A0 n0 c0')).setCell ⟨w.heap.size + 1, 0, none⟩ (.int .i64 0)).setCell ⟨w.heap.size + 1 + 1, 0, none⟩ (.int .i64 0) = V := ⟨_, rfl⟩
    have p2 : PsR Z.heap.size (.slice A0 n0 c0') ps V := by
      rw [← hV]
      exact ((h6.set (by omega) _ _).set (by omega) _ _).set (by omega) _ _
    rw [hV] at b2
    have k2 : V.heap[D]? = some (.deferred (some [])) := b2.o.same D _ hK rfl
    have hgr := grownBy_putObj' V D (.deferred none)
    have hrr : ∀ r, some D = some r → ∃ o : Obj, V.heap[r]? = some o ∧ o.isCells = false := fun r e => by cases e; exact ⟨_, k2, rfl⟩
    have q0 := cell_kept b2.x.cell hgr hrr
    have q1 := cell_kept b2.y.cell hgr hrr
    have q2 := cell_kept b2.z.cell hgr hrr
    have HR : Hid (ParseR w (parseS s.data.toList) (.returned (.tuple #[.slice A0 n0 c0', .int .i64 0, .int .i64 0])) (V.putObj D (.deferred none))) := Lib.hid (by
      rw [hp]
      have p3 := p2.put hgr hrr
      refine ⟨(h7.trans b2.l).grown hgr (Nat.le_trans h7.size b2.o.size) (fun k e => by cases e; omega), _, ps, rfl, ⟨RowK.own_more p3.own (by omega), fun p hp => (p3.all p hp).more (by omega)⟩, rfl⟩)
    have c3 := h3.cell
    have c4 := h4.cell
    have c5 := h5.cell
    have f3 := h3.frozen
    have f4 := h4.frozen
    have f5 := h5.frozen
    have l3 := h3.lt
    have l4 := h4.lt
    have l5 := h5.lt
    have HK2 := Lib.hid k2
    have HV := Lib.hid hV
    have HQ := Lib.hid (And.intro q0 (And.intro q1 q2))
    clear h1 h2 h2' h3 h4 h5 h6 h7 h8 hp hys b1 b2 k2 hgr hrr q0 q1 q2 p2 hV hI0 hge hZz hbx1 hbx hZb hK hD
    gi_wp2_with (refine ⟨trivial, ?_⟩)
    rw [HV.out]
    refine ⟨by simp, .inl ⟨_, _, rfl, run_takeDeferred HK2.out, ?_⟩⟩
    refine ⟨.tuple #[.slice A0 n0 c0', .int .i64 0, .int .i64 0], ?_, HR.out⟩
    obtain ⟨q0, q1, q2⟩ := HQ.out
    simp [results, Tryz.results10, go_sem, q0, q1, q2]
  case stop =>
    rintro D c pre W hD hpre ⟨rfl, hno, h3, h4, h5, h7⟩ hK
    have hp : parseS s.data.toList = .error pre.length := by
      obtain ⟨rest, hq⟩ := hpre
      rw [← parseG_eq, ← hq]
      exact hno rest
    have hgr := grownBy_putObj' W D (.deferred none)
    have hrr : ∀ r, some D = some r → ∃ o : Obj, W.heap[r]? = some o ∧ o.isCells = false := fun r e => by cases e; exact ⟨_, hK, rfl⟩
    have q0 := cell_kept h3.cell hgr hrr
    have q1 := cell_kept h4.cell hgr hrr
    have q2 := cell_kept h5.cell hgr hrr
    have HR : Hid (ParseR w (parseS s.data.toList) (.returned (.tuple #[.slice none 0 0, .int .i64 (pre.length : Int), .int .i64 121])) (W.putObj D (.deferred none))) := Lib.hid (by
      rw [hp]
      exact ⟨h7.grown hgr h7.size (fun k e => by cases e; omega), rfl⟩)
    have HQ := Lib.hid (And.intro q0 (And.intro q1 q2))
    have HK := Lib.hid hK
    clear hno h3 h4 h5 h7 hp hpre hgr hrr q0 q1 q2 hI0 hge hZz hbx1 hbx hZb hK hD
    gi_wp2
    refine ⟨by simp, .inl ⟨_, _, rfl, run_takeDeferred HK.out, ?_⟩⟩
    refine ⟨.tuple #[.slice none 0 0, .int .i64 (pre.length : Int), .int .i64 121], ?_, HR.out⟩
    obtain ⟨q0, q1, q2⟩ := HQ.out
    simp [results, Tryz.results10, go_sem, q0, q1, q2]
end Go.Proofs.YtlephnfepofbbaaGreatDoor
