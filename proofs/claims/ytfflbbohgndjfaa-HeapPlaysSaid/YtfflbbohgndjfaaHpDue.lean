/-
  queue.due: an iterator that takes out and tells what is due.
-/
import Derived.Test.YtfflbbohgndjfaaHpAll
namespace Go.Proofs.Ytfflbbohgndjfaa
open Go.RowKit Go.Shelf Go.Maps Go.ChangeMaps Go.Sort

attribute [local go_sem] Oper.semAt_some

theorem rem_same {w : World} {B h q m : Nat} {v : Value} {S : List It} {x : It} (H : Hp w B h q m v (x :: S)) : Calls Try.prog 34 #[.pointer (some ⟨q, 0, none⟩), .int .i64 0] w fun e w' =>
    e = .returned (.tuple #[]) ∧ ∃ v', Hp w' B h q m v' S ∧ Kept (Fp q m v) w w' ∧ v'.ownBlock = v.ownBlock := by
  obtain ⟨L, hq, hpm⟩ := id H.que
  have hl : 0 < L.length := by rw [hpm.length_eq]; simp
  obtain ⟨f, hQ, hp, hh, hu⟩ := id hq
  have hi : L[0]? = some x := by rw [itAt_some hl, root_first hh hpm H.srt]
  refine (remove_any w B q m v L hq 0 hl).mono ?_
  rintro e w' ⟨rfl, v', L', hq', hpm', hk', ho'⟩
  rw [itAt_of hi] at hpm'
  exact ⟨rfl, v', ⟨H.hb.kept hk' H.apart, H.hB, ⟨L', hq', (hpm'.trans hpm).cons_inv⟩, (List.pairwise_cons.1 H.srt).2⟩, hk', ho'⟩

/-- How many items the queue has. -/
def lenAt (q : Nat) (w : World) : Nat := match w.cell? ⟨q, 0, none⟩ with
  | some (.slice _ n _) => n
  | _ => 0
theorem lenAt_eq {w : World} {B h q m : Nat} {v : Value} {S : List It} (H : Hp w B h q m v S) : lenAt q w = S.length := by
  obtain ⟨L, ⟨f, hQ, _⟩, hpm⟩ := H.que
  obtain ⟨A, c, hv, _⟩ := hQ.slice
  have c0 := hQ.blk.cell 0
  simp at c0
  unfold lenAt
  rw [c0, hv]
  exact hpm.length_eq

/-- What is due has been told, and taken out; what is left is not. -/
def DueEnd (B h q m : Nat) (v0 : Value) (S0 : List It) (now : Int) (xs : List It) (W : World) : Prop :=
  ∃ rest v', S0 = xs ++ rest ∧ (∀ x ∈ xs, x.d ≤ now) ∧ (∀ y ∈ rest, now < y.d) ∧ Hp W B h q m v' rest ∧ v'.ownBlock = v0.ownBlock
/-- Between two rounds. -/
def DueRel (B h q m B1 B2 : Nat) (v0 : Value) (S0 : List It) (now : Int) (J : List It → World → Prop) (rest : List It) (W : World) : Prop :=
  ∃ pre v', S0 = pre ++ rest ∧ (∀ x ∈ pre, x.d ≤ now) ∧ Hp W B h q m v' rest ∧ v'.ownBlock = v0.ownBlock ∧ J pre W ∧ Boxed W B1 47 (.pointer (some ⟨q, 0, none⟩)) ∧ Boxed W B2 29 (.int .u64 now)

theorem boxed_ne_fp {w : World} {B h q m : Nat} {v : Value} {S : List It} (H : Hp w B h q m v S) {b : Nat} {t : TypeId} {u : Value} (hb : Boxed w b t u) (h1 : t ≠ 59) (h2 : t ≠ 31) : ¬ Fp q m v b := by
  obtain ⟨L, ⟨f, hQ, _⟩, _⟩ := H.que
  have hbb : w.heap[b]? = some (.cells #[u] t (0, 0)) := hb
  rintro (e | e | e)
  · subst e
    have hq := hQ.blk
    unfold Blk at hq
    rw [hbb] at hq
    injection hq with hq; injection hq with _ ht
    exact h1 ht
  · subst e
    obtain ⟨D, ⟨es, clock, hm, _⟩, _⟩ := hQ.pm
    rw [hbb] at hm; cases hm
  · rcases hQ.row.2 with ⟨rfl, _⟩ | ⟨g, cap, cur, rfl, _, hg, _⟩
    · cases e
    · cases e
      rw [hbb] at hg
      injection hg with hg; injection hg with _ ht
      exact h2 ht
theorem boxed_kept {w w' : World} {b : Nat} {t : TypeId} {u : Value} {F : Nat → Prop} (hb : Boxed w b t u) (k : Kept F w w') (hf : ¬ F b) : Boxed w' b t u := (k.block b hb.lt hf).trans hb

theorem fp_congr {q m : Nat} {v v' : Value} (h : v'.ownBlock = v.ownBlock) {k : Nat} : Fp q m v' k ↔ Fp q m v k := by unfold Fp; rw [h]
theorem due_len {B h q m B1 B2 : Nat} {v0 : Value} {S0 : List It} {now : Int} {J : List It → World → Prop} {rest : List It} {W : World} (hr : DueRel B h q m B1 B2 v0 S0 now J rest W) : lenAt q W = rest.length := by
  obtain ⟨_, _, _, _, H, _⟩ := hr
  exact lenAt_eq H

section
variable {B h q m B1 B2 : Nat} {v0 v' v'' : Value} {S0 : List It} {now : Int} {J Jx : List It → World → Prop} {Kp : World → World → Prop} {pre rest : List It} {x : It} {w1 w4 W3 : World}
/-- What the walk holds before an item is taken out. -/
abbrev DueF (B h q m B1 B2 : Nat) (v0 v' : Value) (S0 : List It) (now : Int) (J : List It → World → Prop) (pre rest : List It) (x : It) (w1 : World) : Prop :=
  S0 = pre ++ x :: rest ∧ (∀ x ∈ pre, x.d ≤ now) ∧ v'.ownBlock = v0.ownBlock ∧ J pre w1 ∧ Hp w1 B h q m v' (x :: rest) ∧ Boxed w1 B1 47 (.pointer (some ⟨q, 0, none⟩)) ∧ Boxed w1 B2 29 (.int .u64 now)
/-- The block of the item that is told. -/
abbrev itObj (x : It) : Obj := .cells #[.int .i64 x.id, .int .u64 x.d, .int .u64 x.n] 31
theorem due_mid {n l : Nat} (hJ : ∀ s X Y, J s X → Kept (Fp q m v0) X Y → J s Y)
    (hY : ∀ pre (x : It) W, J pre W → pre.length < S0.length → YieldAt Fence.wide (n - 1) Try.prog l #[.agg #[.int .i64 x.id, .int .u64 x.d, .int .u64 x.n]] W fun e W' =>
      (e = .returned (.bool true) ∧ J (pre ++ [x]) W' ∧ Kp W W') ∨ (e = .returned (.bool false) ∧ Jx (pre ++ [x]) W'))
    (hF : DueF B h q m B1 B2 v0 v' S0 now J pre rest x w1) (hl : ∀ p r, S0 = p ++ x :: r → p.length < S0.length)
    (H4 : Hp w4 B h q m v'' rest) (hk4 : Kept (Fp q m v') (w1.alloc (itObj x)) w4) (_ho4 : v''.ownBlock = v'.ownBlock) :
    (YieldAt Fence.wide (n - 1) Try.prog l #[.agg #[.int .i64 x.id, .int .u64 x.d, .int .u64 x.n]] w4 fun e W' =>
      (e = .returned (.bool true) ∧ J (pre ++ [x]) W' ∧ Kp w4 W') ∨ (e = .returned (.bool false) ∧ Jx (pre ++ [x]) W')) ∧ Blk w4 w1.heap.size 31 #[.int .i64 x.id, .int .u64 x.d, .int .u64 x.n] := by
  obtain ⟨hS, hd, hov, hj, H, hb1, hb2⟩ := hF
  have hk : Kept (Fp q m v0) w1 w4 := ((Kept.refl _ w1).alloc _).trans (hk4.mono fun k _ e => (fp_congr hov).1 e)
  exact ⟨hY pre x w4 (hJ _ _ _ hj hk) (hl pre rest hS), (Blk.new w1 _ _).kept hk4 (fun e => by have := (H.lt (k := w1.heap.size) (.inr e)).1; omega)⟩
theorem due_next (hKp : ∀ X Y k, Kp X Y → (k = h ∨ Fp q m v0 k ∨ k = B1 ∨ k = B2) → k < X.heap.size → Y.heap[k]? = X.heap[k]?) (hKs : ∀ X Y, Kp X Y → X.heap.size ≤ Y.heap.size) (hx : x.d ≤ now)
    (hF : DueF B h q m B1 B2 v0 v' S0 now J pre rest x w1) (h5 : Hp w4 B h q m v'' rest ∧ Kept (Fp q m v') (w1.alloc (itObj x)) w4 ∧ v''.ownBlock = v'.ownBlock) (hk3 : Kp w4 W3) (hJ3 : J (pre ++ [x]) W3) : DueRel B h q m B1 B2 v0 S0 now J rest W3 := by
  obtain ⟨hS, hd, hov, hj, H, hb1, hb2⟩ := hF
  obtain ⟨H4, hk4, ho4⟩ := h5
  have b1 : Boxed w4 B1 47 (.pointer (some ⟨q, 0, none⟩)) := boxed_kept (hb1.alloc _) hk4 (boxed_ne_fp H hb1 (by decide) (by decide))
  have b2 : Boxed w4 B2 29 (.int .u64 now) := boxed_kept (hb2.alloc _) hk4 (boxed_ne_fp H hb2 (by decide) (by decide))
  refine ⟨pre ++ [x], v'', by rw [hS]; simp, fun y hy => ?_, H4.same (fun k e => hKp _ _ k hk3 ?_ (H4.lt e).1) (Nat.le_trans H4.base (hKs _ _ hk3)), ho4.trans hov, hJ3, (hKp _ _ B1 hk3 (.inr (.inr (.inl rfl))) b1.lt).trans b1, (hKp _ _ B2 hk3 (.inr (.inr (.inr rfl))) b2.lt).trans b2⟩
  · rcases List.mem_append.1 hy with hy | hy
    · exact hd y hy
    · simp at hy; subst hy; exact hx
  · rcases e with e | e
    · exact .inl e
    · exact .inr (.inl ((fp_congr (ho4.trans hov)).1 e))
end

set_option maxRecDepth 100000 in
set_option maxHeartbeats 4000000 in
theorem due1_in (n : Nat) (hn : 1 ≤ n) (l B h q m B1 B2 : Nat) (v0 : Value) (S0 : List It) (now : Int) (hnow : 0 ≤ now ∧ now ≤ 18446744073709551615) (Kp : World → World → Prop)
    (hKp : ∀ X Y k, Kp X Y → (k = h ∨ Fp q m v0 k ∨ k = B1 ∨ k = B2) → k < X.heap.size → Y.heap[k]? = X.heap[k]?) (hKs : ∀ X Y, Kp X Y → X.heap.size ≤ Y.heap.size) (J Jx : List It → World → Prop)
    (hJ : ∀ s X Y, J s X → Kept (Fp q m v0) X Y → J s Y)
    (hY : ∀ pre (x : It) W, J pre W → pre.length < S0.length → YieldAt Fence.wide (n - 1) Try.prog l #[.agg #[.int .i64 x.id, .int .u64 x.d, .int .u64 x.n]] W fun e W' =>
      (e = .returned (.bool true) ∧ J (pre ++ [x]) W' ∧ Kp W W') ∨ (e = .returned (.bool false) ∧ Jx (pre ++ [x]) W'))
    (W : World) (h0 : DueRel B h q m B1 B2 v0 S0 now J S0 W) :
    CallsIn Fence.wide n Try.prog 42 #[.func (.yield l) #[] #[], .pointer (some ⟨B1, 0, none⟩), .pointer (some ⟨B2, 0, none⟩)] W fun e W' => (∃ v, e = .returned v) ∧
      ((∃ ys, DueEnd B h q m v0 S0 now ys W' ∧ J ys W') ∨ (∃ pre, True ∧ Jx pre W')) := by
  refine callsIn_of_wp Try.func42 rfl trivial ?_ rfl
  simp only [Try.ntmps42, List.size_toArray, List.length_cons, List.length_nil, Nat.reduceAdd, Nat.reduceSub, Array.replicate_succ, Array.replicate_zero, List.push_toArray, List.append_toArray, List.nil_append, List.cons_append]
  gi_wp2
  gi_loopw [4] (fun _ wr => ∃ rest, DueRel B h q m B1 B2 v0 S0 now J rest wr) (fun _ wr => lenAt q wr)
  case atStart => exact ⟨S0, h0⟩
  case round =>
    clear h0
    obtain ⟨rest, pre, v', hS, hd, H, hov, hj, hb1, hb2⟩ := hrel
    obtain ⟨L, ⟨f, hQ, hp, hh, hu⟩, hpm⟩ := id H.que
    have c1 := hb1.cell
    have c2 := hb2.cell
    have q0 := hQ.blk.cell 0
    simp at q0
    cases rest with
    | nil =>
      obtain ⟨A, c, hv, _⟩ := hQ.slice
      rw [hv, hpm.length_eq] at q0
      have HE := Lib.hid (fun k => show DueEnd B h q m v0 S0 now pre (wr.drewN k) ∧ J pre (wr.drewN k) from ⟨⟨[], v', hS, hd, fun y hy => by simp at hy, H.same (fun _ _ => rfl) H.base, hov⟩, hJ _ _ _ hj ((Kept.refl _ wr).drewN k)⟩)
      have hg : decide ((0 : Int) < (([] : List It).length : Int)) = false := by simp
      clear hpm hu hh hp hQ H hv hov hS hd hj
      gi_wp2_with fail
      refine wpIn_wide.2 ?_
      go_quiet (fail)
      gi_wp2
      go_end0
      exact ⟨⟨_, rfl⟩, .inl ⟨pre, HE.out nq⟩⟩
    | cons x rest =>
      have hl : 0 < L.length := by rw [hpm.length_eq]; simp
      obtain ⟨g, cap, hv, hcp, hgl, hgB, hfz, hcell⟩ := hQ.form hl
      rw [hv] at q0
      obtain ⟨x0, x1, x2⟩ := hcell 0 x (by rw [itAt_some hl, root_first hh hpm H.srt])
      simp only [Nat.zero_mul, Nat.zero_add] at x0 x1 x2
      have hl0 : (0 : Int) < (L.length : Int) := by omega
      by_cases hdue : x.d ≤ now
      · have hl0S : ∀ p r, S0 = p ++ x :: r → p.length < S0.length := fun p r e => by rw [e]; simp
        have HR := Lib.hid (fun k => show DueRel B h q m B1 B2 v0 S0 now J (x :: rest) (wr.drewN k) from ⟨pre, v', hS, hd, H.same (fun _ _ => rfl) H.base, hov, hJ _ _ _ hj ((Kept.refl _ wr).drewN k), hb1, hb2⟩)
        have HC := Lib.hid (fun k => show (wr.drewN k).cell? ⟨q, 0, none⟩ = some (.slice (some ⟨g, 0, none⟩) L.length cap) ∧ (wr.drewN k).cell? ⟨g, 0, none⟩ = some (.int .i64 x.id) ∧ (wr.drewN k).cell? ⟨g, 1, none⟩ = some (.int .u64 x.d) ∧ (wr.drewN k).cell? ⟨g, 2, none⟩ = some (.int .u64 x.n) ∧ g < (wr.drewN k).heap.size ∧ q < (wr.drewN k).heap.size ∧ lenAt q (wr.drewN k) = lenAt q wr from ⟨q0, x0, x1, x2, hgl, hQ.blk.lt, rfl⟩)
        clear hpm hu hh hp hQ H hv hov hS hd hj hcell hfz hb1 hb2
        have HL0 := Lib.hid hl0S
        clear hl0S
        gi_wp2_with fail
        refine wpIn_wide.2 ?_
        go_quiet (fail)
        obtain ⟨q0', x0', x1', x2', hgl', hql', hln⟩ := HC.out nq
        have HR' := HR.out nq
        have HLn := Lib.hid hln
        clear q0 x0 x1 x2 c1 c2 hgl hln
        clear HR HC
        generalize wr.drewN nq = w1 at *
        obtain ⟨pre, v', hS, hd, H, hov, hj, hb1, hb2⟩ := HR'
        have c1 := hb1.cell
        have c2 := hb2.cell
        have l1 := hb1.lt
        have HX := Lib.hid (fun (o : Obj) => rem_same (w := w1.alloc o) (H.same (fun j e => Below.heap_alloc _ _ _ (H.lt e).1) (by have := H.base; simp; omega)))
        have HF := Lib.hid (And.intro hS (And.intro hd (And.intro hov (And.intro hj (And.intro H (And.intro hb1 hb2))))))
        clear hS hd hov hj H hb1 hb2
        gi_wp2_with (refine ⟨trivial, ?_⟩; gi_at_call 34; refine (callsIn_wide.2 (HX.out _)).mono ?_; rintro e w4 ⟨rfl, v'', H4, hk4, ho4⟩; obtain ⟨HY, hx4⟩ := due_mid hJ hY HF.out HL0.out H4 hk4 ho4; obtain ⟨fn, tmps, assign, body, hy, hR⟩ := HY; have y0 := hx4.cell 0; have y1 := hx4.cell 1; have y2 := hx4.cell 2; simp at y0 y1 y2; have H5 := Lib.hid (And.intro H4 (And.intro hk4 ho4)); clear H4 hk4 ho4 hx4)
        refine hR.mono ?_
        rintro e W3 (⟨rfl, hJ3, hk3⟩ | ⟨rfl, hJx3⟩)
        · have HE := Lib.hid (due_next hKp hKs hdue HF.out H5.out hk3 hJ3)
          have HM := Lib.hid (show lenAt q W3 < lenAt q wr by rw [due_len HE.out, ← HLn.out, lenAt_eq HF.out.2.2.2.2.1]; simp)
          clear hJ3
          gi_wp2
          go_roundw
          case rel => exact ⟨rest, HE.out⟩
          case measure => exact HM.out
        · gi_wp2
          refine bodyPost_ret (results_none rfl _ _ _) rfl ?_
          exact ⟨⟨_, rfl⟩, .inr ⟨_, trivial, hJx3⟩⟩
      · have hdue' : decide (x.d ≤ now) = false := by simpa using hdue
        have HE := Lib.hid (fun k => show DueEnd B h q m v0 S0 now pre (wr.drewN k) ∧ J pre (wr.drewN k) from ⟨⟨x :: rest, v', hS, hd, fun y hy => by
          rcases List.mem_cons.1 hy with rfl | hy
          · omega
          · have := (List.pairwise_cons.1 H.srt).1 y hy
            unfold Lt at this
            omega, H.same (fun _ _ => rfl) H.base, hov⟩, hJ _ _ _ hj ((Kept.refl _ wr).drewN k)⟩)
        clear hpm hu hh hp hQ H hv hov hS hd hj hcell hfz hdue
        gi_wp2_with fail
        refine wpIn_wide.2 ?_
        go_quiet (fail)
        gi_wp2
        go_end0
        exact ⟨⟨_, rfl⟩, .inl ⟨pre, HE.out nq⟩⟩
end Go.Proofs.Ytfflbbohgndjfaa
