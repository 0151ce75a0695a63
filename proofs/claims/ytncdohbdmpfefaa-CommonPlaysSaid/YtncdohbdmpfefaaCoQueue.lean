/-
  kept.each: the queues come one by one; kept.queue: that of a timeout.
-/
import Derived.Test.YtncdohbdmpfefaaCoNode
import Derived.Test.YtncdohbdmpfefaaCmNest
namespace Go.Proofs.Ytncdohbdmpfefaa
open Go.RowKit Go.Maps Go.ChangeMaps Go.Shelf

attribute [local go_sem] Oper.semAt_some

theorem boxed_at (w : World) (os : Array Obj) (i : Nat) (t : TypeId) (v : Value) (h : (w.heap ++ os)[i]? = some (.cells #[v] t)) {w' : World} (e : w'.heap = w.heap ++ os) : Boxed w' i t v := by
  unfold Boxed; rw [e]; exact h

def encT (qb : Int → Nat) (t : Int) : Array Value := #[.pointer (some ⟨qb t, 0, none⟩)]
theorem each_call (w : World) (k : Nat) : Calls Try.prog 49 #[.pointer (some ⟨k, 0, none⟩)] w fun e w' =>
    e = .returned (.func (.func 59) #[] #[.pointer (some ⟨w.heap.size, 0, none⟩)]) ∧ w' = w.alloc (.cells #[.pointer (some ⟨k, 0, none⟩)] 56) := by
  go_enter Try.func49, Try.ntmps49
  go_wp2
  go_ret
  exact ⟨rfl, rfl⟩

set_option maxRecDepth 100000 in
set_option maxHeartbeats 4000000 in
theorem each_o (n : Nat) (hn : 1 ≤ n) {w : World} {k : Nat} {qv c0 c2 c3 : Value} {qb : Int → Nat} {T : List Int} (hb : Blk w k 66 #[c0, qv, c2, c3]) (hrow : rowQ.own w 0 qv (T.map qb)) (hT : T.length ≤ 32)
    (bK : Nat) (hK : Boxed w bK 56 (.pointer (some ⟨k, 0, none⟩))) (O : Obj → Prop) (Pr : Nat → Prop) (N : Nat) (hN : bK < N ∧ k < N) (hPr : ∀ i, qv.ownBlock = some i → i < N ∧ Pr i) :
    SeqO n Try.prog 59 #[.pointer (some ⟨bK, 0, none⟩)] (encT qb) O Pr (fun xs => xs = T) (fun pre => ∃ r, pre ++ r = T) (fun pre x => ∃ R, pre ++ x :: R = T) N w := by
  intro l J Jx W hz hW hJ hJx hY h0
  have b1 : Blk W k 66 #[c0, qv, c2, c3] := hb.same (hW k hN.2)
  have r1 : rowQ.own W 0 qv (T.map qb) := RowK.own_same hrow fun i e => hW i (hPr i e).1
  have cK : W.cell? ⟨bK, 0, none⟩ = some (.pointer (some ⟨k, 0, none⟩)) := (show Boxed W bK _ _ from (hW bK hN.1).trans hK).cell
  have c1 := b1.cell 1
  simp at c1
  have lk1 := b1.lt
  obtain ⟨A, c, rfl, _⟩ := RowK.own_shows r1
  rw [List.length_map] at *
  have HJ := Lib.hid hJ
  have HY := Lib.hid hY
  have H0 := Lib.hid (And.intro h0 r1)
  have HP := Lib.hid hPr
  clear hJ hJx hY h0 hPr hW hb b1 hK hN hrow r1
  refine callsIn_of_wp Try.func59 rfl trivial ?_ rfl
  simp only [Try.ntmps59, List.size_toArray, List.length_cons, List.length_nil, Nat.reduceAdd, Nat.reduceSub, Array.replicate_succ, Array.replicate_zero, List.push_toArray, List.append_toArray, List.nil_append, List.cons_append]
  gi_wp2_with fail
  gi_loopw [10] (fun v wr => ∃ i : Nat, v = .int .i64 (i : Int) ∧ i ≤ T.length ∧ J (T.take i) wr ∧ rowQ.own wr 0 (.slice A T.length c) (T.map qb)) (fun v _ => T.length - (intOf v).toNat)
  case atStart => exact ⟨0, rfl, Nat.zero_le _, H0.out.1, H0.out.2⟩
  case round =>
    obtain ⟨i, rfl, hi, hJ1, hr⟩ := hrel
    by_cases hlt : i < T.length
    · rcases RowK.own_form hr with ⟨e, e2⟩ | ⟨g, c', e, _, hg, _, hl⟩
      · have e4 : T = [] := by simpa using e2
        rw [e4] at hlt; simp at hlt
      · injection e with e3 e4 e5
        subst e3
        clear e4 e5
        have ht := List.getElem?_eq_getElem hlt
        obtain ⟨t, et⟩ : ∃ t, t = T[i] := ⟨_, rfl⟩
        rw [← et] at ht
        have hx := hl i (qb t) (by rw [List.getElem?_map, ht]; rfl) 0 (by decide)
        have hx1 : wr.cell? ⟨g, i, none⟩ = some (.pointer (some ⟨qb t, 0, none⟩)) := by
          have e4 : 0 + (i * rowQ.n + 0) = i := by show 0 + (i * 1 + 0) = i; omega
          rw [e4] at hx; exact hx
        have hsplit : T = T.take i ++ t :: T.drop (i + 1) := by
          conv => lhs; rw [← List.take_append_drop i T, List.drop_eq_getElem_cons hlt, ← et]
        have hnx : T.take i ++ [t] = T.take (i + 1) := by rw [List.take_add_one, ht]; rfl
        obtain ⟨fn, tmps, assign, body, hy, hRd⟩ := HY.out (T.take i) t wr hJ1 ⟨T.drop (i + 1), hsplit.symm⟩
        have HS := Lib.hid (And.intro hsplit (And.intro hnx hr))
        have b0 : (0 : Int) ≤ (i : Int) := by omega
        have b1 : (i : Int) < (T.length : Int) := by omega
        simp only [encT] at hy
        clear hx hl hsplit hnx hr hJ1 et ht
        gi_wp2_with fail
        clear hy
        refine hRd.mono ?_
        rintro e W3 ⟨(⟨rfl, hJ3⟩ | ⟨rfl, hJx3⟩), hk3⟩
        · rw [HS.out.2.1] at hJ3
          have r3 : rowQ.own W3 0 (.slice (some ⟨g, 0, none⟩) T.length c) (T.map qb) := RowK.own_same HS.out.2.2 fun j e => hk3.low j (HP.out j e).1 (RowK.own_lt HS.out.2.2 e).1 (HP.out j e).2
          have H3 := Lib.hid (And.intro hJ3 r3)
          clear hJ3 r3 hk3 hRd
          gi_wp2_with fail
          go_roundw
          case rel => exact ⟨i + 1, by go_num, by omega, H3.out.1, H3.out.2⟩
          case measure => simp [intOf]; omega
        · have HX := Lib.hid hJx3
          clear hk3 hJx3 hRd
          gi_wp2_with fail
          refine bodyPost_ret (results_none rfl _ _ _) rfl ?_
          exact ⟨⟨_, rfl⟩, .inr ⟨T.take i ++ [t], ⟨T.drop (i + 1), by rw [List.append_assoc]; exact HS.out.1.symm⟩, HX.out⟩⟩
    · obtain rfl : i = T.length := by omega
      rw [List.take_length] at hJ1
      have HE := Lib.hid hJ1
      clear hJ1 hr
      gi_wp2_with fail
      go_end0
      exact ⟨⟨_, rfl⟩, .inl ⟨T, rfl, HE.out⟩⟩

/-- What kept.queue answers. -/
def quO (qb : Int → Nat) (T : List Int) (t : Int) : Option Nat := if t ∈ T then some (qb t) else none

/-- Between two rounds: the timeout that is looked for, what is found, the box of the set. -/
structure QuI (w : World) (k : Nat) (after : Int) (v : Value) (W : World) : Prop where
  a : Boxed W w.heap.size 29 (.int .u64 after)
  f : Boxed W (w.heap.size + 1) 71 v
  b : Below w.heap.size w W
theorem Below.chR {w X Y : World} {N : Nat} (h : Below w.heap.size w X) (hc : ChR N X Y) (hN : w.heap.size ≤ N) : Below w.heap.size w Y :=
  ⟨hc.os.trans h.os, hc.tape.trans h.tape, hc.output.trans h.output, Nat.le_trans h.size hc.size, fun k hk => (hc.low k (by omega) (Nat.lt_of_lt_of_le hk h.size)).trans (h.block k hk)⟩
theorem QuI.stab {w : World} {k N : Nat} {after : Int} {v : Value} {X Y : World} (h : QuI w k after v X) (hc : ChR N X Y) (hN : w.heap.size ≤ N) : QuI w k after v Y :=
  ⟨hc.cells _ _ h.a rfl, hc.cells _ _ h.f rfl, Below.chR h.b hc hN⟩
def TNo (_ : Obj) : Prop := False

set_option maxRecDepth 100000 in
set_option maxHeartbeats 8000000 in
theorem queue_any {w : World} {k mp hp : Nat} {qv : Value} {F G : Nd → Nd} {bo qb : Int → Nat} {L : List En} {T : List Int} {nx ad : Int} (h : Kr w k mp hp qv F G bo qb L T nx ad) (after : Int) :
    Calls Try.prog 35 #[.pointer (some ⟨k, 0, none⟩), .int .u64 after] w fun e w' => e = .returned (ptrO (quO qb T after)) ∧ Below w.heap.size w w' := by
  have HR := Lib.hid (And.intro h (fun i hi => h.lt (i := i) hi))
  clear h
  refine (callsIn_wide (n := 9)).1 ?_
  refine callsIn_of_wp_marks Try.func35 rfl trivial ?_ rfl
  simp only [Try.ntmps35, List.size_toArray, List.length_cons, List.length_nil, Nat.reduceAdd, Nat.reduceSub, Array.replicate_succ, Array.replicate_zero, List.push_toArray, List.append_toArray, List.nil_append, List.cons_append]
  gi_wp2_with fail
  refine wpIn_wide.2 (wp_scope_straight ((wpIn_wide (n := 9)).1 ?_))
  gi_wp2
  refine wpIn_label ?_
  gi_wp2_with (refine ⟨trivial, ?_⟩; gi_at_call 49; refine (callsIn_wide.2 (each_call _ k)).mono ?_; rintro e w1 ⟨rfl, rfl⟩)
  obtain ⟨V, hV⟩ : ∃ V, V = ((w.alloc (.cells #[.int .u64 after] 29)).alloc (.cells #[.pointer none] 71)).alloc (.cells #[.pointer (some ⟨k, 0, none⟩)] 56) := ⟨_, rfl⟩
  have v0 : Kept (fun _ => False) w V := by rw [hV]; exact (((Kept.refl _ w).alloc _).alloc _).alloc _
  have v1 : Boxed V w.heap.size 29 (.int .u64 after) := by rw [hV]; exact (Below.heap_alloc _ _ _ (by simp; omega)).trans ((Below.heap_alloc _ _ _ (by simp)).trans (World.alloc_heap_new w _))
  have v2 : Boxed V (w.heap.size + 1) 71 (.pointer none) := by
    rw [hV]
    have := World.alloc_heap_new (w.alloc (.cells #[.int .u64 after] 29)) (.cells #[.pointer none] 71)
    rw [World.size_alloc] at this
    exact (Below.heap_alloc _ _ _ (by simp)).trans this
  have v3 : Boxed V (w.heap.size + 2) 56 (.pointer (some ⟨k, 0, none⟩)) := by
    rw [hV]
    have := World.alloc_heap_new ((w.alloc (.cells #[.int .u64 after] 29)).alloc (.cells #[.pointer none] 71)) (.cells #[.pointer (some ⟨k, 0, none⟩)] 56)
    rw [World.size_alloc, World.size_alloc] at this
    exact this
  have v4 : V.heap.size = w.heap.size + 3 := by rw [hV]; simp
  rw [← hV]
  obtain ⟨hR, hlt⟩ := HR.out
  have hRV : Kr V k mp hp qv F G bo qb L T nx ad := hR.same (fun i hi => v0.block i (hlt i hi) (fun e => e))
  have hq0 : QuI w k after (.pointer none) V := ⟨v1, v2, v0.below (fun _ e => e.elim) (Nat.le_refl _)⟩
  clear hV
  refine rangeFunc_o (n := 9) (by omega) (gf := 59) (lb := #[.pointer (some ⟨w.heap.size + 2, 0, none⟩)]) rfl (enters_of Try.func59 (by kernel_rfl) rfl)
    (encs := encT qb) TNo (fun i => i < w.heap.size) (each_o 8 (by omega) hRV.kb hRV.row hRV.inv.t32 _ v3 TNo _ V.heap.size ⟨by omega, by have := hRV.kb.lt; omega⟩ (fun i hi => by have := hlt i (.inr (.inl hi)); exact ⟨by omega, this⟩)) (fun _ => rfl)
    (fun pre W => QuI w k after (.pointer none) W ∧ (∀ t ∈ pre, t ≠ after) ∧ ∀ t ∈ T, Blk W (qb t) 84 (encQu F G qb t)) (fun c _ W => c = .exit 0 ∧ QuI w k after (.pointer (some ⟨qb after, 0, none⟩)) W ∧ after ∈ T)
    (fun s X Y hi hc => ⟨hi.1.stab hc (by omega), hi.2.1, fun t ht => hc.cells _ _ (hi.2.2 t ht) rfl⟩) (fun c s X Y hi hc => ⟨hi.1, hi.2.1.stab hc (by omega), hi.2.2⟩) ⟨hq0, by simp, hRV.qs⟩ ?round ?done ?stop
  case round =>
    rintro l pre t W hz ⟨hS, hU, hQ⟩ ⟨R, hR1⟩
    have ht : t ∈ T := by rw [← hR1]; simp
    have HS := Lib.hid (And.intro hS (And.intro hU (And.intro hQ ht)))
    clear hS hR1 hq0 hRV hR hlt v0 v1 v2 v3 hU hQ
    simp only [encT]
    gi_wp2_with fail
    refine ⟨KeepsFrom.refl _ _, KpO.refl _ _ _ _, fun W2 hc => ?_⟩
    have hS2 := HS.out.1.stab hc (by omega)
    have hQ2 : ∀ t ∈ T, Blk W2 (qb t) 84 (encQu F G qb t) := fun t ht => hc.cells _ _ (HS.out.2.2.1 t ht) rfl
    have q0 := (hQ2 t ht).cell 0
    unfold encQu at q0
    simp at q0
    have lq := (hQ2 t ht).lt
    have za := hS2.a.cell
    have la := hS2.a.lt
    have zf := hS2.f.cell
    have lf := hS2.f.lt
    have ff := hS2.f.frozen
    have HB := Lib.hid (And.intro hS2 hQ2)
    clear hS2 hQ2 hc ht
    by_cases e1 : t = after
    · subst e1
      obtain ⟨X, hX⟩ : ∃ X, X = (W2.setCell ⟨w.heap.size + 1, 0, none⟩ (.pointer (some ⟨qb t, 0, none⟩))).drew := ⟨_, rfl⟩
      have kk : Kept (fun i => i = w.heap.size + 1) W2 X := by rw [hX]; exact Kept.drew ((Kept.refl (fun k => k = w.heap.size + 1) W2).setCell (p := ⟨w.heap.size + 1, 0, none⟩) rfl _)
      have f1 : KeepsFrom V.heap.size W2 X := KeepsFrom.of_kept kk (fun k o hk _ e => by omega)
      have f2 : KpO TNo V.heap.size (fun i => i < w.heap.size) W2 X := KpO.of_kept kk (fun k _ e => ⟨fun _ hp => by omega, fun hk => by omega⟩)
      have f3 : QuI w k t (.pointer (some ⟨qb t, 0, none⟩)) X := by
        have hS2 := HB.out.1
        refine ⟨(kk.block _ hS2.a.lt (by omega)).trans hS2.a, ?_, hS2.b.trans (kk.below (fun k e => by omega) hS2.b.size)⟩
        have hb1 : Blk W2 (w.heap.size + 1) 71 #[.pointer none] := hS2.f
        have := hb1.set_ 0 (.pointer (some ⟨qb t, 0, none⟩))
        rw [hX]
        show Boxed (W2.setCell _ _) _ _ _
        simpa [Boxed, Blk] using this
      rw [hX] at f1 f2 f3
      clear hX
      have HE := Lib.hid (And.intro f1 (And.intro f2 f3))
      have hmo : Try.prog.follows .mixedOrders = true := by kernel_rfl
      clear f1 f2 f3 kk
      gi_wp2_with fail
      gi_region_with_o (fail)
      all_goals
        gi_wp2_with fail
        exact ⟨HE.out.1, HE.out.2.1, rfl, HE.out.2.2, HS.out.2.2.2⟩
    · have q1 : (t == after) = false := by simpa using e1
      have HE := Lib.hid e1
      have hmo : Try.prog.follows .mixedOrders = true := by kernel_rfl
      clear e1
      gi_wp2_with fail
      gi_region_with_o (fail)
      all_goals
        gi_wp2_with fail
        have kd : Kept (fun _ => False) W2 W2.drew := (Kept.refl _ W2).drew
        refine ⟨KeepsFrom.of_kept kd (fun _ _ _ _ e => e.elim), KpO.of_kept kd (fun _ _ e => e.elim), HB.out.1.stab (ChO.of_kept kd).toR (Nat.le_refl _), fun s hs => ?_, fun s hs => (HB.out.2 s hs).kept kd (fun e => e)⟩
        rcases List.mem_append.1 hs with hs | hs
        · exact HS.out.2.1 s hs
        · simp at hs; subst hs; exact HE.out
  case done =>
    rintro xs W rfl ⟨hS, hU, _⟩ hD hz
    have cv := hS.f.cell
    have lv := hS.f.lt
    have HU := Lib.hid (show quO qb xs after = none from if_neg fun e => hU after e rfl)
    have HS := Lib.hid hS
    clear hS hU hq0 hRV hR hlt v0 v1 v2 v3
    gi_wp2_with fail
    exact leaves_marks (w.heap.size + 1) [V.heap.size] W (by simp) (fun D hD' => by simp at hD'; subst hD'; exact ⟨by omega, hD⟩) (fun W' hc => ⟨_, results_tmp rfl _ _ _, by rw [HU.out]; rfl, (HS.out.stab hc.toR (by omega)).b⟩)
  case stop =>
    rintro c pre W hp ⟨rfl, hS, hT⟩ hD hz
    have cv := hS.f.cell
    have lv := hS.f.lt
    have HU := Lib.hid (show quO qb T after = some (qb after) from if_pos hT)
    have HS := Lib.hid hS
    clear hS hT hq0 hRV hR hlt v0 v1 v2 v3
    gi_wp2_with fail
    exact leaves_marks (w.heap.size + 1) [V.heap.size] W (by simp) (fun D hD' => by simp at hD'; subst hD'; exact ⟨by omega, hD⟩) (fun W' hc => ⟨_, results_tmp rfl _ _ _, by rw [HU.out]; rfl, (HS.out.stab hc.toR (by omega)).b⟩)
end Go.Proofs.Ytncdohbdmpfefaa
