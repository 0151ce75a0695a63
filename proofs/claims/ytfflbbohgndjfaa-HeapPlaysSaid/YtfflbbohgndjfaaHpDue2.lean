/-
  The heap's Due: what is due is told in order, and taken out.
-/
import Derived.Test.YtfflbbohgndjfaaHpDue
namespace Go.Proofs.Ytfflbbohgndjfaa
open Go.RowKit Go.Shelf Go.Maps Go.ChangeMaps Go.Sort

attribute [local go_sem] Oper.semAt_some

/-- What a round keeps. -/
def KpD (h q m B1 B2 : Nat) (v0 : Value) (X Y : World) : Prop := X.heap.size ≤ Y.heap.size ∧ ∀ k, (k = h ∨ Fp q m v0 k ∨ k = B1 ∨ k = B2) → k < X.heap.size → Y.heap[k]? = X.heap[k]?
theorem KpD.trans {h q m B1 B2 : Nat} {v0 : Value} {X Y Z : World} (a : KpD h q m B1 B2 v0 X Y) (b : KpD h q m B1 B2 v0 Y Z) : KpD h q m B1 B2 v0 X Z :=
  ⟨Nat.le_trans a.1 b.1, fun k e hk => (b.2 k e (Nat.lt_of_lt_of_le hk a.1)).trans (a.2 k e hk)⟩

theorem due_ch (n : Nat) (hn : 1 ≤ n) {w : World} {B h q m B1 B2 : Nat} {v : Value} {S : List It} (H : Hp w B h q m v S) (now : Int) (hnow : 0 ≤ now ∧ now ≤ 18446744073709551615) (hb1 : Boxed w B1 47 (.pointer (some ⟨q, 0, none⟩))) (hb2 : Boxed w B2 29 (.int .u64 now)) :
    SeqCh n Try.prog 42 #[.pointer (some ⟨B1, 0, none⟩), .pointer (some ⟨B2, 0, none⟩)] (fun x : It => #[.agg #[.int .i64 x.id, .int .u64 x.d, .int .u64 x.n]]) (KpD h q m B1 B2 v) (Kept (Fp q m v)) (DueEnd B h q m v S now) (fun _ => True) S.length w := fun l J Jx W hW hz hJ hY h0 =>
  due1_in n hn l B h q m B1 B2 v S now hnow (KpD h q m B1 B2 v) (fun X Y k hk e hl => hk.2 k e hl) (fun X Y hk => hk.1) J Jx hJ hY W
    ⟨[], v, rfl, fun x hx => by simp at hx, H.same (fun k e => hW k (H.lt e).1) (Nat.le_trans H.base hz), rfl, h0, (hW _ hb1.lt).trans hb1, (hW _ hb2.lt).trans hb2⟩

theorem queDue_any (a : Value) (now : Int) (q : Nat) (w : World) (ha : a = .pointer (some ⟨q, 0, none⟩)) : Calls Try.prog 37 #[a, .int .u64 now] w fun e w' =>
    e = .returned (.func (.func 42) #[] #[.pointer (some ⟨w.heap.size, 0, none⟩), .pointer (some ⟨w.heap.size + 1, 0, none⟩)]) ∧ w' = (w.alloc (.cells #[.pointer (some ⟨q, 0, none⟩)] 47)).alloc (.cells #[.int .u64 now] 29) := by
  subst ha
  go_enter Try.func37, Try.ntmps37
  go_wp2
  go_ret
  exact ⟨rfl, rfl⟩

/-- The state between two rounds of Due. -/
def DueI (w : World) (q m : Nat) (v : Value) (now : Int) (pre : List It) (W : World) : Prop :=
  (∃ u, Boxed W w.heap.size 26 u ∧ OwnIt W w.heap.size u pre) ∧ Boxed W (w.heap.size + 1) 47 (.pointer (some ⟨q, 0, none⟩)) ∧ Boxed W (w.heap.size + 1 + 1) 29 (.int .u64 now) ∧ Kept (Fp q m v) w W

theorem boxed_keep {A B : World} {row : Option Nat} {k : Nat} {t : TypeId} {v : Value} (h : Boxed A k t v) (hg : A.grownBy B row) (hr : ∀ r, row = some r → ∃ o : Obj, A.heap[r]? = some o ∧ o.isCells = false) : Boxed B k t v :=
  h.kept hg (fun e => by obtain ⟨o, ho, hc⟩ := hr _ e.symm; rw [show A.heap[k]? = _ from h] at ho; cases ho; cases hc)
theorem ownIt_keep {A B : World} {row : Option Nat} {b : Nat} {P : List It} {v : Value} (h : OwnIt A b v P) (hg : A.grownBy B row) (hr : ∀ r, row = some r → ∃ o : Obj, A.heap[r]? = some o ∧ o.isCells = false) : OwnIt B b v P := by
  refine World.ownsRow.kept h hg ?_
  rcases h.2 with ⟨rfl, _⟩ | ⟨g, cap, cur, rfl, _, hgb, _⟩
  · exact .inl rfl
  · refine .inr fun e' => ?_
    obtain ⟨o, ho, hc⟩ := hr g (by simpa [Value.ownBlock] using e'.symm)
    rw [hgb] at ho; cases ho; cases hc
theorem dueI_own (w : World) (q m : Nat) (v : Value) (now : Int) (n0 : Nat) (hn : w.heap.size ≤ n0) : OwnFrom n0 (DueI w q m v now) := by
  rintro s X Y row ⟨⟨u, h1, h2⟩, h3, h4, h5⟩ hg hrow
  have hr := fun r e => (hrow r e).2
  exact ⟨⟨u, boxed_keep h1 hg hr, ownIt_keep h2 hg hr⟩, boxed_keep h3 hg hr, boxed_keep h4 hg hr, h5.grown hg (fun k e hk => by have := (hrow k e).1; omega)⟩
theorem dueI_kept {w : World} {q m : Nat} {v : Value} {now : Int} {pre : List It} {X Y : World} (hfp : ∀ k, Fp q m v k → k < w.heap.size) (h : DueI w q m v now pre X) (hk : Kept (Fp q m v) X Y) : DueI w q m v now pre Y := by
  obtain ⟨⟨u, h1, h2⟩, h3, h4, h5⟩ := h
  refine ⟨⟨u, boxed_kept h1 hk (fun e => by have := hfp _ e; omega), own_same h2 (fun k e => hk.block k (own_lt h2 e).1 (fun e2 => ?_))⟩, boxed_kept h3 hk (fun e => by have := hfp _ e; omega), boxed_kept h4 hk (fun e => by have := hfp _ e; omega), h5.trans hk⟩
  have := hfp _ e2
  have := (own_lt h2 e).2
  omega

set_option maxRecDepth 100000 in
set_option maxHeartbeats 4000000 in
theorem due_any {w : World} {B h q m : Nat} {v : Value} {S : List It} (H : Hp w B h q m v S) (now : Int) (hnow : 0 ≤ now ∧ now ≤ 18446744073709551615) (hlen : S.length ≤ 100000) :
    Calls Try.prog 21 #[.pointer (some ⟨h, 0, none⟩), .int .u64 now] w fun e w' =>
      ∃ u xs rest v', e = .returned u ∧ S = xs ++ rest ∧ (∀ x ∈ xs, x.d ≤ now) ∧ (∀ y ∈ rest, now < y.d) ∧ OwnIt w' w.heap.size u xs ∧ Hp w' B h q m v' rest ∧ Kept (Fp q m v) w w' ∧ v'.ownBlock = v.ownBlock := by
  obtain ⟨i0, hi, hz0, hz1, hz2⟩ := info_parts infoIt
  refine (callsIn_wide (n := 4)).1 ?_
  have hM := Lib.hid (made_yes w h q H.hb)
  have c0 := H.hb.cell 0
  simp at c0
  have l1 := H.hb.lt
  have hfp : ∀ k, Fp q m v k → k < w.heap.size := fun k e => (H.lt (.inr e)).1
  obtain ⟨Y, hY⟩ : ∃ Y, ((w.alloc (.cells #[.slice none 0 0] 26)).alloc (.cells #[.pointer (some ⟨q, 0, none⟩)] 47)).alloc (.cells #[.int .u64 now] 29) = Y := ⟨_, rfl⟩
  have hkY : Kept (fun _ => False) w Y := by rw [← hY]; exact (((Kept.refl _ w).alloc _).alloc _).alloc _
  have hYz : Y.heap.size = w.heap.size + 1 + 1 + 1 := by rw [← hY]; simp
  have hYI : DueI w q m v now [] Y := by
    rw [← hY]
    have b0 := ((Boxed.new w 26 (.slice none 0 0)).alloc (.cells #[.pointer (some ⟨q, 0, none⟩)] 47)).alloc (.cells #[.int .u64 now] 29)
    have b1 := (Boxed.new (w.alloc (.cells #[.slice none 0 0] 26)) 47 (.pointer (some ⟨q, 0, none⟩))).alloc (.cells #[.int .u64 now] 29)
    have b2 := Boxed.new ((w.alloc (.cells #[.slice none 0 0] 26)).alloc (.cells #[.pointer (some ⟨q, 0, none⟩)] 47)) 29 (.int .u64 now)
    simp only [World.size_alloc] at b1 b2
    exact ⟨⟨_, b0, World.ownsRow_nil _ _ _ _⟩, b1, b2, (((Kept.refl _ w).alloc _).alloc _).alloc _⟩
  have HH := H.kept hkY (fun _ _ e => e)
  have HY := Lib.hid hY
  clear hY
  have H0 := Lib.hid H
  clear H
  refine callsIn_of_wp_marks Try.func21 rfl trivial ?_ rfl
  simp only [Try.ntmps21, List.size_toArray, List.length_cons, List.length_nil, Nat.reduceAdd, Nat.reduceSub, Array.replicate_succ, Array.replicate_zero, List.push_toArray, List.append_toArray, List.nil_append, List.cons_append]
  gi_wp2_with (first
    | (refine ⟨trivial, ?_⟩; gi_at_call 30; refine (callsIn_wide.2 hM.out).mono ?_; rintro e w' ⟨rfl, rfl⟩)
    | (refine ⟨trivial, ?_⟩; gi_at_call 37; refine (callsIn_wide.2 (queDue_any _ now q _ rfl)).mono ?_; rintro e w' ⟨rfl, rfl⟩))
  rw [HY.out]
  have hB1 := hYI.2.1
  have hB2 := hYI.2.2.1
  refine rangeFunc_ch (n := 4) (by omega) (gf := 42) (lb := #[.pointer (some ⟨w.heap.size + 1, 0, none⟩), .pointer (some ⟨w.heap.size + 1 + 1, 0, none⟩)]) rfl (enters_of Try.func42 (by kernel_rfl) rfl)
    (due_ch 3 (by omega) HH now hnow hB1 hB2) (fun _ _ => rfl) (Nat.le_refl _)
    (fun a b => a.trans b) (fun W l o o' hl ho _ _ => ⟨by simp [World.putObj], fun k e hk => World.putObj_heap_other (by
      have : k < Y.heap.size := by
        rcases e with e | e | e | e
        · omega
        · have := hfp _ e; omega
        · omega
        · omega
      omega)⟩) (fun _ => rfl)
    (DueI w q m v now) (fun _ _ _ => False)
    (dueI_own w q m v now _ (by omega)) (fun _ _ _ _ _ hs _ _ => hs)
    (fun X Z k o hk hl ho => (hk.block k (Array.getElem?_eq_some_iff.1 ho).1 (fun e => by have := hfp _ e; omega)).trans ho)
    (fun s X Z hs hk => dueI_kept hfp hs hk)
    (fun xs s X Z row hs hg hrow => by
      obtain ⟨rest, v', e1, e2, e3, H4, e5⟩ := hs
      refine ⟨rest, v', e1, e2, e3, H4.same (fun k e => hg.block k (H4.lt e).1 (fun er => ?_)) (Nat.le_trans H4.base hg.size), e5⟩
      have h1 := (hrow k er.symm).1
      rcases e with e | e
      · omega
      · have := hfp _ ((fp_congr e5).1 e); omega)
    hYI
    (fun x a' W => ∃ Bx, w.heap.size < Bx ∧ Blk W Bx 31 #[.int .i64 x.id, .int .u64 x.d, .int .u64 x.n] ∧ a' = { tmps := #[.pointer (some ⟨h, 0, none⟩), .int .u64 now, undef, undef, .slice none 0 0, .pointer (some ⟨w.heap.size, 0, none⟩), .pointer (some ⟨Bx, 0, none⟩), .pointer (some ⟨h, 0, none⟩), .bool true, .bool false, .pointer (some ⟨h, 0, none⟩), .pointer (some ⟨h, 0, none⟩), .pointer (some ⟨h, 0, none⟩), .pointer (some ⟨q, 0, none⟩), .int .u64 now, (.func (.func 42) #[] #[.pointer (some ⟨w.heap.size + 1, 0, none⟩), .pointer (some ⟨w.heap.size + 1 + 1, 0, none⟩)]), .agg #[.int .i64 x.id, .int .u64 x.d, .int .u64 x.n], undef, undef, undef, undef, undef], defers := [] })
    (fun x a' s X Z row hs hg hrow => by
      obtain ⟨Bx, h1, h2, h3⟩ := hs
      refine ⟨Bx, h1, h2.same (hg.block Bx h2.lt (fun e' => ?_)), h3⟩
      obtain ⟨_, o, ho, hc⟩ := hrow _ e'.symm
      rw [show X.heap[Bx]? = _ from h2] at ho; cases ho; cases hc) ?assign ?body ?done ?stop
  case assign =>
    rintro l pre x W K hI hK
    obtain ⟨⟨u, hu, hrow⟩, hx1, hx2, hkw⟩ := id hI
    have hlt := hu.lt
    gi_wp2
    exact hK _ _ ((KeepsOthers.alloc _ _).from _) ⟨by simp, fun k e hk => Below.heap_alloc _ _ _ hk⟩ (dueI_kept hfp hI ((Kept.refl _ W).alloc _)) ⟨W.heap.size, by omega, Blk.new _ _ _, rfl⟩
  case body =>
    rintro l pre x a' W hl ⟨⟨u, hu, hrow⟩, hx1, hx2, hkw⟩ ⟨Bx, hBx, bX, rfl⟩ hlt
    have hc := hu.cell
    have x0 := bX.cell 0
    have x1 := bX.cell 1
    have x2 := bX.cell 2
    simp at x0 x1 x2
    gi_wp2_with (gi_at_builtin; refine wpListIn_append_own _ rfl _ _ 26 rfl w.heap.size 31 i0 _ 3 24 Try.underlying26 hi hz0 hz1 hz2 rfl (by decide) _ _ _ rfl (World.ownsRow.alloc hrow _) ⟨W.heap.size, 0, none⟩ 1 1 [.int .i64 x.id, .int .u64 x.d, .int .u64 x.n] rfl rfl (World.news_of_block (cs := #[.int .i64 x.id, .int .u64 x.d, .int .u64 x.n]) (heap_alloc_new W _)) (by simp [Value.oneCell']) (by unfold maxLen; omega) (by omega) (by have := hkw.size; simp; omega) ?_; intro v' w1 hown' hgrow _; obtain ⟨g', cap', rfl⟩ := ownsRow_succ hown'; obtain ⟨hv1, hv2, hr2, hk2, hb2⟩ := hu.appended (by decide) hrow hkw.size (Nat.le_refl _) hown' hgrow; have hc1 := hv1.cell; have hf1 := hv1.frozen)
    rw [enc_snoc] at hr2
    have y1 : Boxed (w1.setCell ⟨w.heap.size, 0, none⟩ (.slice (some ⟨g', 0, none⟩) (pre.length + 1) cap')) (w.heap.size + 1) 47 (.pointer (some ⟨q, 0, none⟩)) := (Below.heap_setCell _ _ _ _ (by simp)).trans ((hx1.alloc _).kept hgrow (hx1.not_row (by decide) hrow))
    have y2 : Boxed (w1.setCell ⟨w.heap.size, 0, none⟩ (.slice (some ⟨g', 0, none⟩) (pre.length + 1) cap')) (w.heap.size + 1 + 1) 29 (.int .u64 now) := (Below.heap_setCell _ _ _ _ (by show w.heap.size + 1 + 1 ≠ w.heap.size; omega)).trans ((hx2.alloc _).kept hgrow (hx2.not_row (by decide) hrow))
    refine ⟨hk2.from _, ⟨hb2.size, fun k e hk => ?_⟩, ⟨_, hv2, by unfold OwnIt; simpa using hr2⟩, y1, y2, ?_⟩
    · rcases e with e | e | e | e
      · exact hb2.block k (by omega)
      · exact hb2.block k (hfp _ e)
      · subst e; exact (show _ = _ from y1).trans (show _ = _ from hx1).symm
      · subst e; exact (show _ = _ from y2).trans (show _ = _ from hx2).symm
    · exact ⟨hb2.os.trans hkw.os, hb2.tape.trans hkw.tape, hb2.output.trans hkw.output, Nat.le_trans hkw.size hb2.size, fun k hk hf => (hb2.block k hk).trans (hkw.block k hk hf)⟩
  case done =>
    rintro D ys W hD ⟨rest, v', e1, e2, e3, H4, e5⟩ ⟨⟨u, hu, hrow⟩, hx1, hx2, hkw⟩ hK
    have hc := hu.cell
    gi_wp2
    refine ⟨by simp, .inl ⟨_, _, rfl, run_takeDeferred hK, ?_⟩⟩
    refine ⟨_, results_tmp rfl _ _ _, u, ys, rest, v', rfl, e1, e2, e3, ownsRow_putObj hrow _ hK rfl, ?_, ?_, e5⟩
    · refine H4.same (fun k e => World.putObj_heap_other ?_) (by simpa [World.putObj] using H4.base)
      rcases e with e | e
      · omega
      · have := hfp _ ((fp_congr e5).1 e); omega
    · exact ⟨hkw.os, hkw.tape, hkw.output, by simpa [World.putObj] using hkw.size, fun k hk hf => (World.putObj_heap_other (by omega)).trans (hkw.block k hk hf)⟩
  case stop =>
    rintro D c pre W _ _ h _
    exact h.elim
theorem due_zero (w : World) (h : Nat) (c0 : w.cell? ⟨h, 0, none⟩ = some (.pointer none)) (now : Int) : Calls Try.prog 21 #[.pointer (some ⟨h, 0, none⟩), .int .u64 now] w fun e w' => e = .returned (.slice none 0 0) ∧ w = w' := by
  have hM := Lib.hid (made_zero w h c0)
  go_enter Try.func21, Try.ntmps21
  go_wp2_with (go_at_call 30; refine hM.out.mono ?_; rintro e w' ⟨rfl, rfl⟩)
  go_ret
  exact ⟨rfl, rfl⟩
theorem due_nil (w : World) (now : Int) : Calls Try.prog 21 #[.pointer none, .int .u64 now] w fun e w' => e = .returned (.slice none 0 0) ∧ w = w' := by
  go_enter Try.func21, Try.ntmps21
  go_wp2_with (go_at_call 30; refine (made_nil _).mono ?_; rintro e w' ⟨rfl, rfl⟩)
  go_ret
  exact ⟨rfl, rfl⟩
end Go.Proofs.Ytfflbbohgndjfaa
