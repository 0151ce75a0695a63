/-
  What the other texts stand on, in one.
-/
import Derived.Test.YtlephnfepofbbaaGreatDoorMtBaseB
import Derived.Defers
import Derived.LaidEqlPtr
import Derived.Deep.RegionHeld
import Derived.CallsIn
import Derived.RangeFuncCalls
import Derived.Deep.QuietTactic
import Derived.BigQuiet
import Derived.IntWalk
import Derived.WalkSmall
import Derived.Test.YtlephnfepofbbaaGreatDoorRows
import Derived.ProofKit
import Derived.OpenShut
import Derived.Carry
import Derived.Deep.SlicePairs

/-
  Connect and Accept: the first connection that waits at a listener.
-/
namespace Go.Proofs.YtlephnfepofbbaaGreatDoor
open Go.RowKit Go.Shelf Go.Maps Go.ChangeMaps

attribute [local go_sem] Oper.semAt_some

/-- A connection more waits at a listener; others than before wait. -/
def Wi.rose (x : Wi) : Wi := x.set false { x.e false with rd := (x.e false).rd + 1 }
def Wi.more (x : Wi) (j : Nat) : Wi := { x.rose with wait := x.wait ++ [j] }
def Wi.left (x : Wi) (l : List Nat) : Wi := { x with wait := l }
theorem Wi.sameR_more (x : Wi) (j : Nat) : x.sameR (x.more j) := Wi.sameR_set x false { x.e false with rd := (x.e false).rd + 1 } rfl rfl rfl

section
variable {w w' : World} {g n : Nat} {r : Bool → Nat} {v : Value} {x : Wi}
theorem Wb.setV (h : Wb w g n r v x) (u : Value) : Wb (w.setCell ⟨g, 17, none⟩ u) g n r u x := by
  have := Blk.set_ h 17 u; exact this
theorem Wb.waits (h : Wb w g n r v x) (l : List Nat) : Wb w g n r v { x with wait := l } := h
set_option maxRecDepth 100000 in
set_option maxHeartbeats 1000000 in
theorem wait_first (h : Wb w g n r (.slice none 0 0) x) (y : Nat) (hN : x.le 900000000) :
    Calls Tryz.prog 67 #[.pointer (some ⟨g, 0, none⟩), .pointer (some ⟨y, 0, none⟩)] w fun e w' =>
      e = .returned (.tuple #[]) ∧ ∃ v, RP.own w' w.heap.size v [y] ∧ Wb w' g n r v x.rose ∧ Kept (fun b => b = g) w w' := by
  have H := Lib.hid h
  have hb := (hN false).2.1
  have e1 : IntKind.u64.wrap (((x.e false).rd : Int) + 1) = (((x.e false).rd + 1 : Nat) : Int) := by rw [IntWalk.u64_in _ (by omega)]; omega
  have b1 : (0 : Int) ≤ ((x.e false).rd : Int) := by omega
  have b2 : ((x.e false).rd : Int) ≤ 1000000000 := by omega
  have c17 := h.w17
  have f17 := h.frozen 17
  have lg := h.lt
  clear h hN
  go_enter Tryz.func67, Tryz.ntmps67
  go_wp2_with (at_builtin; refine RowK.append (R := RP) rfl _ _ rfl w.heap.size (.slice none 0 0) [] [y] rfl (RowK.own_nil _ _) (some ⟨w.heap.size, 0, none⟩) 1 1 rfl rfl (RowK.new_shows (R := RP) w y 96) (fun e => by cases e) (by simp) (by simp) ?_; intro v2 w2 O2 hg2 ho2; have h2 : Wb w2 g n r (.slice none 0 0) x := H.out.same (RowK.grown_far hg2 lg (fun e => by cases e)); obtain ⟨A2, n2, c2, hu2⟩ := RowK.own_slice O2; subst hu2; have d17 := h2.w17; have g17 := h2.frozen 17; have lg2 := h2.lt; have h3 := h2.setV (.slice A2 n2 c2); have c6 := h3.c5 false; have f6 := h3.frozen 6; rw [off_f] at c6; have lg3 := h3.lt; have HP := Lib.hid (And.intro O2 (And.intro h2 (And.intro hg2 ho2))); clear O2 h2 h3 hg2 ho2)
  obtain ⟨w3, hw3⟩ : ∃ w3, w3 = w2.setCell ⟨g, 17, none⟩ (.slice A2 n2 c2) := ⟨_, rfl⟩
  rw [← hw3] at c6 f6 lg3 ⊢
  have H3 := Lib.hid hw3
  clear hw3
  go_still_tail 11, (by kernel_rfl)
  change wpList _ _ _ _ _ w3.drew
  go_wp2_with fail
  go_end0
  obtain ⟨O2, h2, hg2, ho2⟩ := HP.out
  have hd : Wb w3.drew g n r (.slice A2 n2 c2) x := by rw [H3.out]; exact (h2.setV (.slice A2 n2 c2)).drewN 1
  have h3 := hd.set5 false ((x.e false).rd + 1)
  have hw := H3.out
  subst hw
  have hlt : ∀ b, (Value.slice A2 n2 c2).ownBlock = some b → w.heap.size ≤ b := fun b e => (RowK.own_lt O2 e).2
  refine ⟨rfl, _, RowK.own_same O2 (fun b e => ?_), h3, ?_⟩
  · have := hlt b e
    have := H.out.lt
    exact (Below.heap_setCell _ _ _ _ (show b ≠ g by omega)).trans (Below.heap_setCell _ _ _ _ (show b ≠ g by omega))
  · have hk : Kept (fun b => b = g) w w2 := ⟨hg2.os, hg2.tape, hg2.output, by have := hg2.size; simp at this; omega, fun b hb' hn => RowK.grown_far hg2 hb' (fun e => by cases e)⟩
    exact ((hk.setCell (p := ⟨g, 17, none⟩) rfl _).drewN 1).setCell (p := ⟨g, 6, none⟩) rfl _
end
section
variable {w w' : World} {B : Nat} {L : Lay} {S : Ws}
/-- What a connection at a listener leaves. -/
def Conn (w : World) (B : Nat) (L : Lay) (S S' : Ws) (w' : World) : Prop := ∃ L', Wd w' B L' S' ∧ L'.p = L.p ∧ Mv w w' L.F L'.F
set_option maxRecDepth 100000 in
set_option maxHeartbeats 4000000 in
theorem wConnect_first (h : Wd w B L S) {i : Nat} {x : Wi} (hx : S.ws[i]? = some x) (hv : L.wt i = .slice none 0 0) (hw0 : x.wait = []) (hbk : 1 ≤ x.back) (hbm : x.back ≤ 64) (his : (x.e false).is = 1) (n : Nat) (h1 : 1 ≤ n) (h2 : n ≤ 65536) (hl : S.ws.length < 1000) (hN : x.le 900000000) :
    Calls Tryz.prog 31 #[.pointer (some ⟨L.p, 0, none⟩), .int .i64 (i : Int), .int .i64 (n : Int)] w fun e w' =>
      e = .returned (.tuple #[.int .i64 (S.ws.length : Int), .int .i64 0]) ∧ Conn w B L S ((S.addW (outW n)).setW i (x.more S.ws.length)) w' := by
  have hi := (List.getElem?_eq_some_iff.1 hx).1
  have HW := Lib.hid (wire_yes h hi)
  have hwb := (h.wire i x hx).blk
  have w16 := hwb.w16
  have w17 := hwb.w17
  rw [hv] at w17
  have c2 := hwb.c2 false
  rw [his, off_f] at c2
  have lg := hwb.lt
  obtain ⟨A, c, ev⟩ := h.wlen
  have c1 := h.kept.c1
  rw [ev] at c1
  have lk := h.kept.lt
  have lp := h.top.lt
  have c0 := h.top.cell 0
  simp at c0
  have HL := Lib.hid (fun q => wlayOut_any (h.drewN q) n h2 (by omega))
  have H := Lib.hid (And.intro h (And.intro hx (And.intro hw0 (And.intro hN (And.intro hi hv)))))
  have b1 : (1 : Int) ≤ (x.back : Int) := by omega
  have b2 : (x.back : Int) ≤ 64 := by omega
  have b3 : ¬ (x.back : Int) = 0 := by omega
  have b4 : ((x.back : Int) == 0) = false := by simpa using b3
  have b5 : ¬ (n : Int) < 1 := by omega
  have b6 : ¬ (65536 : Int) < (n : Int) := by omega
  have b7 : ¬ (S.ws.length : Int) = 1000 := by omega
  have b8 : ((S.ws.length : Int) == 1000) = false := by simpa using b7
  have b9 : ((0 : Int) == (x.back : Int)) = false := by simp; omega
  have b10 : ¬ (0 : Int) = (x.back : Int) := by omega
  obtain ⟨bk, hbk⟩ : ∃ bk, bk = (x.back : Int) := ⟨_, rfl⟩
  rw [← hbk] at b1 b2 b3 b4 b9 b10 w16
  clear h hx hwb hv ev hbk hN his hw0 hbm hl
  go_enter Tryz.func31, Tryz.ntmps31
  go_wp2_with fail
  refine HW.out.mono ?_
  rintro e w1 ⟨rfl, rfl⟩
  go_wp2_with fail
  go_quiet (fail)
  go_wp2_with fail
  refine (HL.out nq).mono ?_
  rintro e w2 ⟨_, rfl, L2, g, rfl, h1, h2, h3, h4, h5⟩
  obtain ⟨h, hx, hw0, hN, hi, hv⟩ := H.out
  have hx2 := Ws.addW_old (x := outW n) hx
  have hb2 := (h1.wire _ _ hx2).blk
  rw [h2.wt i hi, hv, h2.wa i hi] at hb2
  have HWt := Lib.hid (wait_first hb2 g hN)
  have H2 := Lib.hid (And.intro h1 (And.intro h2 (And.intro h3 (And.intro h4 hb2))))
  clear h hx hw0 hN hi hv hx2 hb2 h1 h2 h3 h4 h5
  go_wp2_with fail
  refine HWt.out.mono ?_
  rintro e w3 ⟨rfl, v, O3, hb3, hk3⟩
  obtain ⟨h, hx, hw0, hN, hi, hv⟩ := H.out
  obtain ⟨h1, h2, h3, h4, hb2⟩ := H2.out
  have hx2 := Ws.addW_old (x := outW n) hx
  have hm : (x.more S.ws.length).wait = [S.ws.length] := by unfold Wi.more; simp [hw0]
  obtain ⟨A3, c3, ev3, hs3, hn3, hc3⟩ := RowK.own_shows O3
  obtain ⟨L3, k1, k2, k3, k4, k5, k6⟩ := h1.setWait (y := x.more S.ws.length) (v := v) (A := A3) (c := c3) (W' := w3) hx2 (hk3.mono fun b _ e => .inl (e.trans (h2.wa i hi).symm)) (by rw [h2.wa i hi]; exact hb3) (Wi.sameR_more x _) (by rw [hm]; exact ev3) (by rw [hm]; exact hc3) (fun e => (hn3 e).1) (by rw [hm]; show RP.shows w3 A3 [L2.wa S.ws.length]; rw [h3]; exact hs3) (fun b e => ⟨.inr (RowK.own_lt O3 e).2, (RowK.own_lt O3 e).1⟩) (fun j hj => by rw [hm] at hj; simp at hj; subst hj; rw [Ws.addW_len]; omega)
  have hy : ((S.addW (outW n)).setW i (x.more S.ws.length)).ws[S.ws.length]? = some (outW n) := by
    unfold Ws.setW
    simp only [List.getElem?_set]
    rw [if_neg (by omega)]
    exact Ws.addW_last S (outW n)
  have hwy := (k1.wire _ _ hy).blk
  rw [k4, h3] at hwy
  have y0 := hwy.w0
  have lg3 := hwy.lt
  have HE := Lib.hid (show Conn w B L S ((S.addW (outW n)).setW i (x.more S.ws.length)) w3 from ⟨L3, k1, k2.trans h2.p, (show Mv w (w.drewN nq) L.F L.F from ⟨(Kept.refl _ w).drewN nq, fun _ e => .inl e⟩).trans (h4.trans k6)⟩)
  clear h hx hw0 hN hi hv hx2 hb2 h1 h2 h3 h4 hm O3 hb3 hk3 ev3 hs3 hn3 hc3 k1 k2 k3 k4 k5 k6 hy hwy
  go_wp2_with fail
  go_ret2
  exact ⟨rfl, HE.out⟩
set_option maxRecDepth 100000 in
set_option maxHeartbeats 4000000 in
theorem wConnect_again (h : Wd w B L S) {i : Nat} {x : Wi} (hx : S.ws[i]? = some x) (hbk : 1 ≤ x.back) (hbm : x.back ≤ 64) (hwl : x.wait.length = x.back) (his : (x.e false).is = 1) (n : Nat) (h1 : 1 ≤ n) (h2 : n ≤ 65536) :
    Calls Tryz.prog 31 #[.pointer (some ⟨L.p, 0, none⟩), .int .i64 (i : Int), .int .i64 (n : Int)] w fun e w' => e = .returned (.tuple #[.int .i64 0, .int .i64 113]) ∧ ∃ q, w' = w.drewN q := by
  have hi := (List.getElem?_eq_some_iff.1 hx).1
  have HW := Lib.hid (wire_yes h hi)
  have hwb := (h.wire i x hx).blk
  obtain ⟨A, c, e1, e2, _⟩ := h.wait i x hx
  have w16 := hwb.w16
  have w17 := hwb.w17
  rw [e1, hwl] at w17
  have c2 := hwb.c2 false
  rw [his, off_f] at c2
  have lg := hwb.lt
  have b1 : (1 : Int) ≤ (x.back : Int) := by omega
  have b2 : (x.back : Int) ≤ 64 := by omega
  have b3 : ¬ (x.back : Int) = 0 := by omega
  have b4 : ((x.back : Int) == 0) = false := by simpa using b3
  have b5 : ¬ (n : Int) < 1 := by omega
  have b6 : ¬ (65536 : Int) < (n : Int) := by omega
  obtain ⟨bk, hbk⟩ : ∃ bk, bk = x.back := ⟨_, rfl⟩
  rw [← hbk] at b1 b2 b3 b4 w16 w17
  clear h hx hwb hbk his hbm e1 e2 hwl
  go_enter Tryz.func31, Tryz.ntmps31
  go_wp2_with fail
  refine HW.out.mono ?_
  rintro e w1 ⟨rfl, rfl⟩
  go_wp2_with fail
  go_quiet (fail)
  go_wp2_with fail
  go_ret2
  exact ⟨rfl, _, rfl⟩
end
section
variable {w w' : World} {B : Nat} {L : Lay} {S : Ws}
/-- What Accept leaves. -/
def Accd (w : World) (B : Nat) (L : Lay) (S' : Ws) (w' : World) : Prop := ∃ L', Wd w' B L' S' ∧ L'.p = L.p ∧ Mv w w' L.F L'.F
end
end Go.Proofs.YtlephnfepofbbaaGreatDoor

/-
  pending: what is pending comes one by one, rising.
-/
namespace Go.Proofs.YtlephnfepofbbaaGreatDoor
open Go.RowKit Go.Maps Go.ChangeMaps Go.Shelf

attribute [local go_sem] Oper.semAt_some

def encPr (x : Nat × Nat) : Array Value := #[.int .i64 (x.1 : Int), .int .i64 (x.2 : Int)]
theorem pending_call (w : World) (k : Nat) : Calls Tryz.prog 133 #[.pointer (some ⟨k, 0, none⟩)] w fun e w' =>
    e = .returned (.func (.func 152) #[] #[.pointer (some ⟨w.heap.size, 0, none⟩)]) ∧ w' = w.alloc (.cells #[.pointer (some ⟨k, 0, none⟩)] 60) := by
  go_enter Tryz.func133, Tryz.ntmps133
  go_wp2
  go_ret
  exact ⟨rfl, rfl⟩

theorem pend_split (s : T) {i : Nat} (hi : i < 32) (hc : s.c i ≠ 0) : ∃ R, s.pend i ++ (i, s.c i) :: R = s.pend 32 := by
  have h : ∀ j, ∃ R, s.pend (i + 1 + j) = s.pend (i + 1) ++ R := fun j => by
    induction j with
    | zero => exact ⟨[], by simp⟩
    | succ j ih =>
      obtain ⟨R, hR⟩ := ih
      rw [← Nat.add_assoc, T.pend_succ]
      split
      · exact ⟨R, hR⟩
      · exact ⟨R ++ [(i + 1 + j, s.c (i + 1 + j))], by rw [hR, List.append_assoc]⟩
  obtain ⟨R, hR⟩ := h (31 - i)
  have e1 : s.pend (i + 1) = s.pend i ++ [(i, s.c i)] := by rw [T.pend_succ, if_neg hc]
  rw [show i + 1 + (31 - i) = 32 by omega, e1] at hR
  exact ⟨R, by rw [hR]; simp⟩

set_option maxRecDepth 100000 in
set_option maxHeartbeats 4000000 in
theorem pend_o (n : Nat) (hn : 1 ≤ n) {w : World} {k : Nat} {s : T} (hT : Tb w k s) (bK : Nat) (hK : Boxed w bK 60 (.pointer (some ⟨k, 0, none⟩))) (O : Obj → Prop) (Pr : Nat → Prop) (N : Nat) (hN : bK < N ∧ Pr bK) (hk : k < N ∧ Pr k) :
    SeqO n Tryz.prog 152 #[.pointer (some ⟨bK, 0, none⟩)] encPr O Pr (fun xs => xs = s.pend 32) (fun _ => True) (fun pre x => ∃ R, pre ++ x :: R = s.pend 32) N w := by
  intro l J Jx W hz hW hJ hJx hY h0
  have b1 : Tb W k s := hT.same (hW k hk.1)
  have k1 : Boxed W bK 60 (.pointer (some ⟨k, 0, none⟩)) := (hW bK hN.1).trans hK
  have HY := Lib.hid hY
  have H0 := Lib.hid (And.intro h0 (And.intro b1 k1))
  have HP := Lib.hid (And.intro hN hk)
  clear hJ hJx hY h0 hW b1 k1 hT hK hN hk
  refine callsIn_of_wp Tryz.func152 rfl trivial ?_ rfl
  simp only [Tryz.ntmps152, List.size_toArray, List.length_cons, List.length_nil, Nat.reduceAdd, Nat.reduceSub, Array.replicate_succ, Array.replicate_zero, List.push_toArray, List.append_toArray, List.nil_append, List.cons_append]
  gi_wp2_with fail
  refine wpIn_wide.2 (wp_scope_straight ((wpIn_wide (n := n)).1 ?_))
  gi_wp2
  refine wpIn_label ?_
  gi_wp2_with fail
  gi_loopw [5] (fun v wr => ∃ i : Nat, v = .int .i64 (i : Int) ∧ i ≤ 32 ∧ J (s.pend i) wr ∧ Tb wr k s ∧ Boxed wr bK 60 (.pointer (some ⟨k, 0, none⟩))) (fun v _ => 32 - (intOf v).toNat)
  case atStart => exact ⟨0, rfl, Nat.zero_le _, H0.out⟩
  case round =>
    obtain ⟨i, rfl, hi, hJ1, hT1, hK1⟩ := hrel
    by_cases hlt : i < 32
    · have b0 : (0 : Int) ≤ (i : Int) := by omega
      have b1 : (i : Int) < 32 := by omega
      have c1 := hT1.c_ hlt
      have cK := hK1.cell
      have lk := hT1.lt
      have lK := hK1.lt
      by_cases hc : s.c i = 0
      · have HR := Lib.hid (show J (s.pend (i + 1)) wr ∧ Tb wr k s ∧ Boxed wr bK 60 (.pointer (some ⟨k, 0, none⟩)) by rw [T.pend_succ, if_pos hc]; exact ⟨hJ1, hT1, hK1⟩)
        rw [hc] at c1
        clear hJ1 hT1 hK1 hc
        gi_wp2_with fail
        go_roundw
        case rel => exact ⟨i + 1, by go_num, by omega, HR.out⟩
        case measure => simp [intOf] <;> omega
      · obtain ⟨fn, tmps, assign, body, hy, hRd⟩ := HY.out (s.pend i) (i, s.c i) wr hJ1 (pend_split s hlt hc)
        have hcc : ((s.c i : Int) == 0) = false := by simpa using hc
        have HE := Lib.hid (And.intro (show s.pend (i + 1) = s.pend i ++ [(i, s.c i)] by rw [T.pend_succ, if_neg hc]) (And.intro hT1 hK1))
        simp only [encPr] at hy
        clear hJ1 hT1 hK1
        gi_wp2_with fail
        clear hy
        refine hRd.mono ?_
        rintro e W3 ⟨(⟨rfl, hJ3⟩ | ⟨rfl, hJx3⟩), hk3⟩
        · obtain ⟨he, hT1, hK1⟩ := HE.out
          rw [← he] at hJ3
          obtain ⟨hN, hk⟩ := HP.out
          have HR := Lib.hid (And.intro hJ3 (And.intro (hT1.same (hk3.low k hk.1 hT1.lt hk.2)) ((hk3.low bK hN.1 hK1.lt hN.2).trans hK1)))
          clear hJ3 hk3 hRd hT1 hK1 he hN hk hc hcc
          gi_wp2_with fail
          go_roundw
          case rel => exact ⟨i + 1, by go_num, by omega, HR.out⟩
          case measure => simp [intOf] <;> omega
        · have HX := Lib.hid hJx3
          clear hk3 hJx3 hRd hc hcc
          gi_wp2_with fail
          rw [Exit.noGoto_ret]
          refine bodyPost_ret (results_none rfl _ _ _) rfl ?_
          exact ⟨⟨_, rfl⟩, .inr ⟨_, trivial, HX.out⟩⟩
    · obtain rfl : i = 32 := by omega
      have HE := Lib.hid hJ1
      clear hJ1 hT1 hK1
      gi_wp2_with fail
      rw [Exit.noGoto_normal]
      go_end0
      exact ⟨⟨_, rfl⟩, .inl ⟨_, rfl, HE.out⟩⟩
end Go.Proofs.YtlephnfepofbbaaGreatDoor

/-
  Pending and Take: their contracts.
-/
namespace Go.Proofs.YtlephnfepofbbaaGreatDoor
open Go.RowKit Go.Maps Go.ChangeMaps Go.Shelf

attribute [local go_sem] Oper.semAt_some

theorem pending_nil (w : World) : Calls Tryz.prog 107 #[.pointer none] w fun x w' => x = .returned (.int .i64 0) ∧ w = w' := by
  refine (callsIn_wide (n := 4)).1 ?_
  refine callsIn_of_wp_marks Tryz.func107 rfl trivial ?_ rfl
  simp only [Tryz.ntmps107, List.size_toArray, List.length_cons, List.length_nil, Nat.reduceAdd, Nat.reduceSub, Array.replicate_succ, Array.replicate_zero, List.push_toArray, List.append_toArray, List.nil_append, List.cons_append]
  gi_wp2
  exact ⟨_, results_tmp rfl _ _ _, rfl, rfl⟩
section
variable {w : World} {k : Nat} {s : T}
/-- Two boxes laid. -/
theorem two_boxes (w : World) (t u : TypeId) (a b : Value) : ∃ V, V = (w.alloc (.cells #[a] t)).alloc (.cells #[b] u) ∧ Kept (fun _ => False) w V ∧ Boxed V w.heap.size t a ∧ Boxed V (w.heap.size + 1) u b ∧ V.heap.size = w.heap.size + 2 := by
  refine ⟨_, rfl, ((Kept.refl _ w).alloc _).alloc _, (Boxed.new w _ _).alloc _, ?_, by simp⟩
  have := Boxed.new (w.alloc (.cells #[a] t)) u b
  simpa using this

set_option maxRecDepth 100000 in
set_option maxHeartbeats 4000000 in
theorem pending_any (H : Tb w k s) (hle : s.le 2147483647) :
    Calls Tryz.prog 107 #[.pointer (some ⟨k, 0, none⟩)] w fun x w' => x = .returned (.int .i64 (s.sum : Int)) ∧ Below w.heap.size w w' := by
  have HH := Lib.hid H
  have HL := Lib.hid hle
  clear H hle
  refine (callsIn_wide (n := 4)).1 ?_
  refine callsIn_of_wp_marks Tryz.func107 rfl trivial ?_ rfl
  simp only [Tryz.ntmps107, List.size_toArray, List.length_cons, List.length_nil, Nat.reduceAdd, Nat.reduceSub, Array.replicate_succ, Array.replicate_zero, List.push_toArray, List.append_toArray, List.nil_append, List.cons_append]
  gi_wp2_with (refine ⟨trivial, ?_⟩; gi_at_call 133; refine (callsIn_wide.2 (pending_call _ k)).mono ?_; rintro e w1 ⟨rfl, rfl⟩)
  obtain ⟨V, hV, v0, v1, v2, v4⟩ := two_boxes w 3 60 (.int .i64 0) (.pointer (some ⟨k, 0, none⟩))
  rw [← hV]
  have hTV := HH.out.kept v0 (fun e => e)
  have hlt := HH.out.lt
  have hc0 : ColN w w.heap.size 3 (.int .i64 ((sum2 []  : Nat) : Int)) V := ⟨v1, v0.below (fun _ e => e.elim) (Nat.le_refl _)⟩
  clear hV
  refine rangeFunc_o (n := 4) (by omega) (gf := 152) (lb := #[.pointer (some ⟨w.heap.size + 1, 0, none⟩)]) rfl (enters_of Tryz.func152 (by kernel_rfl) rfl)
    (encs := encPr) TCe (fun i => i < w.heap.size ∨ i = w.heap.size + 1) (pend_o 3 (by omega) hTV _ v2 TCe _ V.heap.size ⟨by omega, .inr rfl⟩ ⟨by omega, .inl hlt⟩) (fun _ => rfl)
    (fun pre W => ColN w w.heap.size 3 (.int .i64 (sum2 pre : Int)) W) (fun _ _ _ => False)
    (fun s X Y hi hc => hi.chR hc (by omega)) (fun _ _ _ _ hi _ => hi.elim) hc0 ?round ?done (fun _ _ _ _ hi _ _ => hi.elim)
  case round =>
    rintro l pre x W hz hS ⟨R, hR⟩
    have hsum : sum2 pre + x.2 ≤ 68719476704 := by
      have h1 := T.tot_le HL.out 32
      rw [← T.sum_pend, ← hR, sum2_append] at h1
      have e : sum2 (x :: R) = x.2 + sum2 R := by simp [sum2]
      omega
    have HS := Lib.hid hS
    clear hS hR hc0 hTV v0 v1 v2
    simp only [encPr]
    gi_wp2_with fail
    refine ⟨KeepsFrom.refl _ _, KpO.refl _ _ _ _, fun W2 hc => ?_⟩
    have hS2 := HS.out.chR hc (by omega)
    have cb := hS2.ex.cell
    have lb := hS2.ex.lt
    have fb := hS2.ex.frozen
    obtain ⟨a0, ha0⟩ : ∃ a0, a0 = sum2 pre := ⟨_, rfl⟩
    obtain ⟨x2, hx2⟩ : ∃ x2, x2 = x.2 := ⟨_, rfl⟩
    have hw : IntKind.i64.wrap ((a0 : Int) + (x2 : Int)) = (((a0 + x2 : Nat)) : Int) := by rw [IntKind.wrap_i64]; omega
    have HE := Lib.hid (ColN.step (N := V.heap.size) (Pr := fun i => i < w.heap.size ∨ i = w.heap.size + 1) (T := TCe) hS2 (by omega) (Nat.le_refl _) (fun i hi => by omega) (.int .i64 (sum2 (pre ++ [x]) : Int)))
    have e2 : sum2 (pre ++ [x]) = a0 + x2 := by rw [sum2_append, sum2_one, ha0, hx2]
    rw [e2] at HE
    rw [← ha0] at cb
    have HX := Lib.hid (And.intro ha0 (And.intro hx2 e2))
    rw [← hx2]
    clear hS2 hc ha0 hx2 e2
    gi_wp2_with fail
    refine ⟨HE.out.2.1, HE.out.2.2, ?_⟩
    show ColN w w.heap.size 3 (.int .i64 (sum2 (pre ++ [x]) : Int)) _
    rw [HX.out.2.2]
    exact HE.out.1
  case done =>
    rintro xs W rfl hS hD hz
    have cb := hS.ex.cell
    have lb := hS.ex.lt
    have HE := Lib.hid hS.bel
    clear hS hc0 hTV v0 v1 v2
    gi_wp2_with fail
    refine leaves_marks w.heap.size [V.heap.size] W (by simp) (fun D hD' => by simp at hD'; subst hD'; exact ⟨by omega, hD⟩) (fun W' hc => ⟨_, results_tmp rfl _ _ _, rfl, below_chR HE.out hc.toR (Nat.le_refl _)⟩)

def zeros : Array Value := (cList T.new).toArray
theorem zeros_lit : #[Value.int .i64 0, .int .i64 0, .int .i64 0, .int .i64 0, .int .i64 0, .int .i64 0, .int .i64 0, .int .i64 0, .int .i64 0, .int .i64 0, .int .i64 0, .int .i64 0, .int .i64 0, .int .i64 0, .int .i64 0, .int .i64 0, .int .i64 0, .int .i64 0, .int .i64 0, .int .i64 0, .int .i64 0, .int .i64 0, .int .i64 0, .int .i64 0, .int .i64 0, .int .i64 0, .int .i64 0, .int .i64 0, .int .i64 0, .int .i64 0, .int .i64 0, .int .i64 0] = zeros := rfl
theorem zeros_size : zeros.size = 32 := by simp [zeros, cList_len]
theorem zeros_one : ∀ v ∈ zeros, v.oneCell' = true := fun v hv => by
  obtain ⟨i, _, rfl⟩ := List.mem_map.1 (show v ∈ cList T.new by simpa [zeros] using hv)
  rfl
theorem info45 : (Tryz.prog.info? 113).map (·.size) = some zeros.size := by rw [zeros_size]; kernel_rfl
theorem put_zeros (s : T) : putAt (cellsT s) 32 zeros = cellsT s.idle := by
  unfold putAt
  rw [zeros_size]
  show ((hList s ++ cList s).take 32 ++ cList T.new ++ (hList s ++ cList s).drop (32 + 32)).toArray = (hList s.idle ++ cList s.idle).toArray
  rw [List.take_append_of_le_length (by rw [hList_len]; omega), List.take_of_length_le (by rw [hList_len]; omega), List.drop_eq_nil_of_le (by simp [hList_len, cList_len]), List.append_nil]
  rfl

end
end Go.Proofs.YtlephnfepofbbaaGreatDoor

/-
  What lets the notice be as the signals are.
-/
namespace Go.Proofs.YtlephnfepofbbaaGreatDoor
open Go.RowKit Go.Shelf Go.Maps Go.ChangeMaps

attribute [local go_sem] Oper.semAt_some

/-- What a world comes to behind a call that concerns signals. -/
def Ws.note (s : Ws) : Ws := match s.nt with
  | none => s
  | some (i, k) => match s.ws[i]? with
    | none => s
    | some x => if s.sg.sum = 0 then s.setW i (x.drain k (x.e k).bs.length) else if (x.e k).bs.length = 0 then s.setW i (x.fill k [1]) else s
theorem Ws.note_none {s : Ws} (h : s.nt = none) : s.note = s := by unfold Ws.note; rw [h]
theorem Ws.note_some {s : Ws} {i : Nat} {k : Bool} {x : Wi} (h : s.nt = some (i, k)) (hx : s.ws[i]? = some x) : s.note = if s.sg.sum = 0 then s.setW i (x.drain k (x.e k).bs.length) else if (x.e k).bs.length = 0 then s.setW i (x.fill k [1]) else s := by
  unfold Ws.note; rw [h]; simp only [hx]
/-- The notice's end can read. -/
def Ws.ntc (s : Ws) : Prop := ∀ i k x, s.nt = some (i, k) → s.ws[i]? = some x → (x.e k).can = true
def Noted (w : World) (B : Nat) (L : Lay) (S S' : Ws) (w' : World) : Prop := ∃ L', Wd w' B L' S' ∧ L.ext L' S.ws.length ∧ Mv w w' L.F L'.F

theorem infoEnd : (Tryz.prog.info? 101).map (fun i => i.size) = some 7 := by kernel_rfl
theorem neq_end (w : World) (a : Addr) : (binOp .neq 63 (.pointer (some a)) (.pointer (some a))).run Tryz.prog w = .ok (.bool false) w := by
  have hi := infoEnd
  cases hte : Tryz.prog.info? 101 with
  | none => rw [hte] at hi; simp at hi
  | some j =>
    have h : ∀ d : Nat, (Op.equalIn (d + 1) 63 (.pointer (some a)) (.pointer (some a))).run Tryz.prog w = .ok true w := fun d => by
      simp [Op.equalIn, run_underlying Tryz.underlying63, sizeOf, typeInfo, hte, run_sameAddr_same]
    simp only [binOp]
    simp [Op.equal, Op.maxDepth, h 9999]
section
variable {w w' : World} {B : Nat} {L : Lay} {S : Ws}
theorem Mv.of_below {F : Nat → Prop} (hb : Below w.heap.size w w') : Mv w w' F F := ⟨Kept.of_below hb, fun _ e => .inl e⟩
set_option maxHeartbeats 4000000 in
theorem notify_d (h : Wd w B L S) (hN : S.le 900000000) (hc : S.ntc) (hs : S.sg.le 2147483647) (u : FrameMode) :
    CallsD Tryz.prog 68 #[.pointer (some ⟨L.kb, 0, none⟩)] u w fun e u' w' => u' = u ∧ (e = .returned (.tuple #[]) ∧ Noted w B L S S.note w') := by
  have c99 := h.kept.c99
  have c98 := h.kept.c98
  have lk := h.kept.lt
  cases hn : S.nt with
  | none =>
    have e0 := Ws.note_none hn
    rw [hn] at c99
    have HE := Lib.hid (show Noted w B L S S.note w from ⟨L, e0.symm ▸ h, Lay.ext.refl _ _, ⟨Kept.refl _ w, fun _ e => .inl e⟩⟩)
    simp [Lay.at_] at c99
    clear h hN hc hs hn e0
    go_enter_d Tryz.func68, Tryz.ntmps68
    go_wp2_with fail
    go_end0
    exact ⟨rfl, HE.out⟩
  | some q =>
    obtain ⟨i, k⟩ := q
    have hi := h.ntok i k hn
    obtain ⟨x, hx⟩ : ∃ x, S.ws[i]? = some x := ⟨_, List.getElem?_eq_getElem hi⟩
    have hcan := hc i k x hn hx
    have e0 := Ws.note_some hn hx
    have HP := Lib.hid (pending_any h.sig hs)
    have H := Lib.hid (And.intro h (And.intro hx (And.intro hcan (hN i x hx))))
    rw [hn] at c99
    simp [Lay.at_] at c99
    obtain ⟨sm, hsm⟩ : ∃ sm, sm = S.sg.sum := ⟨_, rfl⟩
    rw [← hsm] at HP e0
    rw [e0]
    have K := Lib.hid (show ∀ w1, Below w.heap.size w w1 → ∃ out, Wd w1 B L S ∧ Wr w1 B (L.wa i) i (L.rr i) (L.G i) (L.wt i) x ∧ Rg w1 B (L.rr i k) (L.G i k) x.cap (x.e k).bs (x.e k).inn out from fun w1 hb => by
      have h1 := H.out.1.below hb
      have hwr := h1.wire i x H.out.2.1
      obtain ⟨out, hrg⟩ := hwr.ring k H.out.2.2.1
      exact ⟨out, h1, hwr, hrg⟩)
    have HMV := Lib.hid (show ∀ w1, Below w.heap.size w w1 → ∀ y w2, Turned w1 B L S i y w2 → Noted w B L S (S.setW i y) w2 from fun w1 hb y w2 ht => by
      obtain ⟨L', k1, k2, k3⟩ := ht
      exact ⟨L', k1, k2, (Mv.of_below hb).trans k3⟩)
    clear h hN hc hs hn e0 hx hcan hi hsm
    by_cases h0 : sm = 0
    · rw [if_pos h0]
      subst h0
      go_enter_d Tryz.func68, Tryz.ntmps68
      go_wp2_with fail
      refine HP.out.mono ?_
      rintro e w1 ⟨rfl, hb⟩
      obtain ⟨out, h1, hwr, hrg⟩ := K.out w1 hb
      have c4 := hwr.blk.c4 k
      rw [H.out.2.2.1, rp_yes] at c4
      have lg := hwr.blk.lt
      have HLN := Lib.hid (len_any hrg)
      have hf := hrg.facts
      have HDR := Lib.hid (fun (q : Nat) => drain_any (hwr.drewN_ q) k H.out.2.2.1 ((x.e k).bs.length : Int) (by omega) H.out.2.2.2)
      have HB := Lib.hid (And.intro hb h1)
      clear h1 hwr hrg hf hb
      go_wp2_with fail
      refine HLN.out.mono ?_
      rintro e w2 ⟨rfl, m2, rfl⟩
      go_wp2_with fail
      refine (HDR.out _).mono ?_
      rintro e w2 ⟨u1, F', rfl, hu, hw2, hm2, hm3⟩
      have HE := Lib.hid (HMV.out w1 HB.out.1 _ _ (Turned.of_wire HB.out.2 H.out.2.1 _ hw2 hm2 (Wi.drain_wait _ _ _)))
      rw [Int.toNat_natCast] at HE
      clear hu hw2 hm2 hm3
      go_wp2_with fail
      go_end0
      exact ⟨rfl, HE.out⟩
    · rw [if_neg h0]
      by_cases h2 : (x.e k).bs.length = 0
      · rw [if_pos h2]
        have b0 : ¬ (sm : Int) = 0 := by omega
        have b1 : ((sm : Int) == 0) = false := by simpa using b0
        go_enter_d Tryz.func68, Tryz.ntmps68
        go_wp2_with fail
        refine HP.out.mono ?_
        rintro e w1 ⟨rfl, hb⟩
        obtain ⟨out, h1, hwr, hrg⟩ := K.out w1 hb
        have c4 := hwr.blk.c4 k
        rw [H.out.2.2.1, rp_yes] at c4
        have lg := hwr.blk.lt
        have HLN := Lib.hid (len_any hrg)
        rw [h2] at HLN
        have HFL := Lib.hid (fun (q : Nat) => fill_any (w := (w1.drewN q).alloc (.cells (encB [1]).toArray 5 (0, 0))) ((hwr.drewN_ q).kept ((Kept.refl (fun _ => False) (w1.drewN q)).alloc _) (fun _ _ e => e)) k H.out.2.2.1 (.slice (some ⟨w1.heap.size, 0, none⟩) 1 1) [1]
          (src_const (w1.drewN q) (fun _ hk => (hwr.lt hk).1) [1] (0, 0) (by decide)) H.out.2.2.2)
        have HB := Lib.hid (And.intro hb h1)
        clear h1 hwr hrg hb
        go_wp2_with fail
        refine HLN.out.mono ?_
        rintro e w2 ⟨rfl, m2, rfl⟩
        go_wp2_with fail
        refine (HFL.out m2).mono ?_
        rintro e w2 ⟨rfl, F', hw2, hm2⟩
        have HE := Lib.hid (HMV.out w1 HB.out.1 _ _ (Turned.of_wire HB.out.2 H.out.2.1 m2 hw2 ((show Mv (w1.drewN m2) ((w1.drewN m2).alloc (.cells (encB [1]).toArray 5 (0, 0))) (FW (L.wa i) (L.G i)) (FW (L.wa i) (L.G i)) from ⟨(Kept.refl _ _).alloc _, fun _ e => .inl e⟩).trans hm2) (Wi.fill_wait _ _ _)))
        clear hw2 hm2
        go_wp2_with fail
        go_end0
        exact ⟨rfl, HE.out⟩
      · rw [if_neg h2]
        have b0 : ¬ (sm : Int) = 0 := by omega
        have b1 : ((sm : Int) == 0) = false := by simpa using b0
        have b2 : ¬ ((x.e k).bs.length : Int) = 0 := by omega
        have b3 : (((x.e k).bs.length : Int) == 0) = false := by simpa using b2
        obtain ⟨ln, hln⟩ : ∃ ln, ln = (x.e k).bs.length := ⟨_, rfl⟩
        rw [← hln] at b2 b3
        have HL := Lib.hid hln
        clear h2 hln
        go_enter_d Tryz.func68, Tryz.ntmps68
        go_wp2_with fail
        refine HP.out.mono ?_
        rintro e w1 ⟨rfl, hb⟩
        obtain ⟨out, h1, hwr, hrg⟩ := K.out w1 hb
        have c4 := hwr.blk.c4 k
        rw [H.out.2.2.1, rp_yes] at c4
        have lg := hwr.blk.lt
        have HLN := Lib.hid (len_any hrg)
        rw [← HL.out] at HLN
        have HE := Lib.hid (fun q => show Noted w B L S S (w1.drewN q) from ⟨L, h1.drewN q, Lay.ext.refl _ _, (Mv.of_below hb).trans ⟨(Kept.refl _ w1).drewN q, fun _ e => .inl e⟩⟩)
        clear h1 hwr hrg hb
        go_wp2_with fail
        refine HLN.out.mono ?_
        rintro e w2 ⟨rfl, m2, rfl⟩
        go_wp2_with fail
        go_end0
        exact ⟨rfl, HE.out _⟩

/-- The signals' block alone turned. -/
theorem Wd.turnS (h : Wd w B L S) {t : T} (q : Kept (fun b => b = L.sb) w w') (ht : Tb w' L.sb t) : Wd w' B L { S with sg := t } := by
  have hs := q.size
  have e : ∀ b t, L.own b = some t → t ≠ .sig → w'.heap[b]? = w.heap[b]? := fun b t hb ht => q.block b (h.lt b t hb).2 (fun e => by subst e; rw [h.osig] at hb; cases hb; exact ht rfl)
  exact ⟨h.top.same (e _ _ h.otop (fun e => by cases e)), h.kept.same (e _ _ h.okept (fun e => by cases e)), ht, RowK.own_same h.row (fun k hk => e _ _ (h.orow k hk) (fun e => by cases e)),
    fun i x hx => (h.wire i x hx).same (fun b hb => by
      rcases hb with rfl | ⟨k, hk⟩
      · exact e _ _ (h.owire i (List.getElem?_eq_some_iff.1 hx).1) (fun e => by cases e)
      · exact e b _ hk (fun e => by cases e)) (Nat.le_trans h.hs hs),
    fun i x hx => (h.wait i x hx).same (fun b hb => e b _ hb (fun e => by cases e)) hs,
    h.otop, h.okept, h.osig, h.orow, h.owire, fun b t hb => ⟨(h.lt b t hb).1, Nat.lt_of_lt_of_le (h.lt b t hb).2 hs⟩, Nat.le_trans h.hs hs, h.fdok, h.ntok, h.wtok, h.oi⟩
theorem Wd.mvS (h : Wd w B L S) (q : Kept (fun b => b = L.sb) w w') : Mv w w' L.F L.F := ⟨q.mono fun b _ e => e ▸ ⟨_, h.osig⟩, fun _ e => .inl e⟩
def Ws.sig (s : Ws) (t : T) : Ws := { s with sg := t }

set_option maxHeartbeats 4000000 in
theorem wRaise_any (h : Wd w B L S) (n : Int) (hN : S.le 900000000) (hc : S.ntc) (hs : S.sg.le 900000000) :
    Calls Tryz.prog 32 #[.pointer (some ⟨L.p, 0, none⟩), .int .i64 n] w fun e w' => e = .returned (.int .i64 (code n)) ∧ Noted w B L S (S.sig (S.sg.rise n)).note w' := by
  have HM := Lib.hid (wmade_yes h.top)
  have c0 := h.top.cell 0
  simp at c0
  have lp := h.top.lt
  have lk := h.kept.lt
  have c98 := h.kept.c98
  have HH := Lib.hid (raise_any h.sig n (hs.mono (by omega)))
  have H := Lib.hid h
  have HN := Lib.hid (And.intro hN (And.intro hc (T.le_rise hs n)))
  clear h hN hc hs
  go_enter_defers Tryz.func32, Tryz.ntmps32
  go_wp2_with fail
  refine HM.out.mono ?_
  rintro e w1 ⟨rfl, rfl⟩
  go_wp2_with fail
  refine HH.out.mono ?_
  rintro e w1 ⟨rfl, h1, h2⟩
  have h3 := H.out.turnS h2 h1
  have HE := Lib.hid (And.intro h3 (H.out.mvS h2))
  clear h1 h2 h3
  go_wp2_with fail
  refine leaves_cons (f := 68) (args := #[.pointer (some ⟨L.kb, 0, none⟩)]) (by simp) (by simp [go_sem]) ?_
  refine (notify_d HE.out.1 HN.out.1 HN.out.2.1 (HN.out.2.2.mono (by omega)) .returning).mono ?_
  rintro e u' w2 ⟨rfl, rfl, L', k1, k2, k3⟩
  exact ⟨_, results_tmp rfl _ _ _, rfl, L', k1, k2, HE.out.2.trans k3⟩
end
end Go.Proofs.YtlephnfepofbbaaGreatDoor

/-
  A region that draws its order, inside a fence that lets everything in: the walk by a condition on the world.
-/
namespace Go.Proofs.YtlephnfepofbbaaGreatDoor

section
variable {P : Program} {ops : Array Oper} {Q : Exit → Act → World → Prop} {F : Fence}
/-- A fence that lets every call in. -/
structure Lets (P : Program) (F : Fence) : Prop where
  fn : ∀ f, F.fn f
  deep : F.depth = none
  calls : ∀ {m : Nat} {f : FuncId} {args : Array Value} {w : World} {R : Ending → World → Prop}, Calls P f args w R → CallsIn F m P f args w R
  rows : ∀ {m : Nat} {row : String} {args : Array Value} {w : World} {R : Value → World → Prop}, Rows P row args w R → RowsIn F m P row args w R
theorem lets_wide : Lets P Fence.wide := ⟨fun _ => trivial, rfl, fun h => callsIn_wide.2 h, fun h c cs _ => by
  obtain ⟨v, w', h1, h2⟩ := h c cs
  exact ⟨v, w', h1, stepsIn_wide.2 h2⟩⟩
theorem lets_round (l : Nat) : Lets P (Fence.wide.inRound l) := ⟨fun _ => trivial, rfl, fun h => CallsIn.inRound l (callsIn_wide.2 h), fun h c cs _ => by
  obtain ⟨v, w', h1, h2⟩ := h c cs
  exact ⟨v, w', h1, stepsIn_wide.2 h2⟩⟩
def noDefer (o : Oper) : Bool := match o.op with
  | .defer _ => false
  | _ => true
theorem upon_in (hF : Lets P F) {n : Nat} {o : Oper} {a : Act} {next : Act → World → Prop} {r : Result Next} (h : o.upon P a next Q r) : o.uponIn F n P a next Q r := by
  have hd : F.depth.isSome = true → 1 ≤ n := fun e => by rw [hF.deep] at e; cases e
  cases r with
  | ok x w' =>
    cases x <;> simp only [Oper.upon] at h <;> simp only [Oper.uponIn]
    case enter f args => exact ⟨hd, hF.calls h⟩
    case row row args => exact ⟨hd, hF.rows h⟩
    all_goals exact h
  | halt x w' =>
    cases x <;> simp only [Oper.upon] at h <;> simp only [Oper.uponIn]
    exact h
theorem wpOps_in (hF : Lets P F) (hd : ops.all noDefer = true) (hQ : ∀ a w, ¬ Q .outgrown a w) {n : Nat} : ∀ (s : List Nat) (a : Act) (w : World), wpOps P ops Q s a w → wpOpsIn F n P ops Q s a w
  | [], _, _, h => h
  | i :: s, a, w, h => by
    simp only [wpOps] at h
    simp only [wpOpsIn]
    cases ho : ops[i]? with
    | none => rw [ho] at h; exact wpOps_in hF hd hQ s a w h
    | some o =>
      rw [ho] at h
      simp only [] at h ⊢
      by_cases hw : Region.wanted o (yielded ops a.tmps) = true
      · rw [if_pos hw] at h ⊢
        rcases h with h | ⟨_, a₀, w₀, hq⟩
        · have hn : ∀ c, o.op ≠ .defer c := fun c e => by
            have hm := Array.all_eq_true'.1 hd o (Array.mem_of_getElem? ho)
            unfold noDefer at hm
            rw [e] at hm; cases hm
          refine ⟨fun f _ => hF.fn f, ?_⟩
          rw [Oper.semAt_eq _ _ _ hn]
          refine upon_in hF (Oper.wp_mono ?_ h)
          exact fun a' w' h' => wpOps_in hF hd hQ s a' w' h'
        · exact absurd hq (hQ _ _)
      · rw [if_neg hw] at h ⊢
        exact ⟨fun f _ => hF.fn f, wpOps_in hF hd hQ s _ w h⟩
theorem wpIn_region_held {S : World → Prop} {n id : Nat} {a : Act} {w : World} (hF : Lets P F) (hd : ops.all noDefer = true) (hQ : ∀ a w, ¬ Q .outgrown a w) (hm : P.follows .mixedOrders = true) (hS : S w.drew)
    (h : S w.drew → wpAnyH P .any ops Q S ops.size (Array.replicate ops.size false) a w.drew) : (Code.region id ops true).wpIn F n P Q a w :=
  wpIn_region_draw fun t => wpOps_in hF hd hQ _ _ _ (by
    simp only [Region.schedule, hm, Bool.true_or, if_true]
    exact wpAny_sound ops.size t _ a _ (wpAny_of_held _ _ _ _ (h hS)))
end
end Go.Proofs.YtlephnfepofbbaaGreatDoor

/-
  A region that draws its order, inside a fence: all its operations but the last one by a condition on the world, the last one behind them.
-/
namespace Go.Proofs.YtlephnfepofbbaaGreatDoor

section
variable {P : Program} {l : List Oper} {o : Oper} {Q : Exit → Act → World → Prop} {S : World → Prop} {F : Fence}
/-- What stands behind all but the last one. -/
def lastQ (P : Program) (ops : Array Oper) (o : Oper) (Q : Exit → Act → World → Prop) : Exit → Act → World → Prop
  | .normal, a, w => wpList P ops Q [o] a w
  | e, a, w => Q e a w
theorem wpOp_lastQ {ops ops' : Array Oper} {i : Nat} {K : Act → World → Prop} {a : Act} {w : World} (h : wpOp P ops (lastQ P ops' o Q) i K a w) : wpOp P ops Q i K a w := by
  unfold wpOp at h ⊢
  split at h
  · exact h
  · split at h
    · rename_i hw
      rw [if_pos hw]
      rcases h with h | ⟨h1, h2⟩
      · left
        unfold Oper.wp at h ⊢
        generalize (execOp a.eval _).run P w = r at h ⊢
        cases r with
        | ok n w' => cases n <;> exact h
        | halt x w' => cases x <;> exact h
      · exact .inr ⟨h1, h2⟩
    · rename_i hw
      rw [if_neg hw]
      exact h
theorem any_of_held_last (h : lastB l o = true) : ∀ (f : Nat) (listed : Array Bool) (a : Act) (w : World), listed.size = l.length →
    wpAnyH P .any l.toArray (lastQ P (l ++ [o]).toArray o Q) S f listed a w → wpAny P .any (l ++ [o]).toArray Q (f + 1) (listed.push false) a w
  | 0, listed, a, w, hs, hh => by
    have ha := fun i hi => all_of_ready h hh.1 i i (Nat.le_refl _) hi
    refine ⟨fun h0 => ?_, fun i hi => ?_⟩
    · have := (ready_last h hs).2 ha
      rw [h0] at this; cases this
    · have hlt : i < l.length + 1 := by obtain ⟨_, x, h2, _⟩ := mem_ready.1 hi; have := (Array.getElem?_eq_some_iff.1 h2).1; simpa using this
      by_cases he : i = l.length
      · subst he; exact last_op h hs ha 0 hh.2
      · have := (ready_head hs (by omega : i < l.length)).1 hi
        rw [hh.1] at this; cases this
  | f + 1, listed, a, w, hs, hh => by
    refine ⟨fun h0 => ?_, fun i hi => ?_⟩
    · cases hr : Region.ready .any l.toArray listed with
      | nil =>
        have := (ready_last h hs).2 (fun i hi => all_of_ready h hr i i (Nat.le_refl _) hi)
        rw [h0] at this; cases this
      | cons j t =>
        have hj : j ∈ Region.ready .any l.toArray listed := by rw [hr]; exact List.mem_cons_self
        have hjl : j < l.length := by obtain ⟨_, x, h2, _⟩ := mem_ready.1 hj; have := (Array.getElem?_eq_some_iff.1 h2).1; simpa using this
        have := (ready_head (o := o) hs hjl).2 hj
        rw [h0] at this; cases this
    · have hlt : i < l.length + 1 := by obtain ⟨_, x, h2, _⟩ := mem_ready.1 hi; have := (Array.getElem?_eq_some_iff.1 h2).1; simpa using this
      by_cases he : i = l.length
      · subst he
        have ha := (ready_last h hs).1 hi
        refine last_op h hs ha (f + 1) (hh.1 ?_)
        apply List.eq_nil_iff_forall_not_mem.2
        intro j hj
        obtain ⟨h1, x, h2, _⟩ := mem_ready.1 hj
        have hjl : j < l.length := by have := (Array.getElem?_eq_some_iff.1 h2).1; simpa using this
        rw [ha j hjl] at h1; cases h1
      · have hil : i < l.length := by omega
        have h1 := wpOp_lastQ (hh.2 i ((ready_head hs hil).1 hi))
        have h2 := wpOp_mono (fun a' w' hw' => any_of_held_last h f (listed.setIfInBounds i true) a' w' (by simpa using hs) hw'.2) h1
        have e1 : (listed.push false).setIfInBounds i true = (listed.setIfInBounds i true).push false := by
          apply Array.ext_getElem?
          intro j
          simp only [Array.getElem?_setIfInBounds, Array.getElem?_push, Array.size_push, Array.size_setIfInBounds]
          by_cases hj : i = j
          · subst hj
            rw [if_pos rfl, if_pos (by omega), if_neg (by omega), if_pos rfl, if_pos (by omega)]
          · rw [if_neg hj, if_neg hj]
        rw [e1]
        unfold wpOp at h2 ⊢
        rw [ops_head hil]
        have hx : l.toArray[i]? = some l[i] := by simp [hil]
        rw [hx] at h2 ⊢
        simp only at h2 ⊢
        rw [wanted_head h (by simp [hil] : l[i]? = some l[i])]
        exact h2
theorem wpIn_region_held_last {n id k : Nat} {a : Act} {w : World} {l : List Oper} (hF : Lets P F) (m : Nat) {o : Oper} (hdr : l.drop m = [o]) (hd : l.toArray.all noDefer = true) (hQ : ∀ a w, ¬ Q .outgrown a w) (hm : P.follows .mixedOrders = true) (hL : lastB (l.take m) o = true) (hk : (l.take m).length = k) (hS : S w.drew)
    (h : S w.drew → wpAnyH P .any (l.take m).toArray (lastQ P l.toArray o Q) S k (Array.replicate k false) a w.drew) : (Code.region id l.toArray true).wpIn F n P Q a w :=
  wpIn_region_draw fun t => wpOps_in hF hd hQ _ _ _ (by
    subst hk
    have hl : l = l.take m ++ [o] := by rw [← hdr, List.take_append_drop]
    generalize l.take m = t' at hL h hl
    subst hl
    have h2 := any_of_held_last hL (S := S) (Q := Q) t'.length (Array.replicate t'.length false) a w.drew (by simp) (h hS)
    have e : (t' ++ [o]).toArray.size = t'.length + 1 := by simp
    have e2 : Array.replicate (t'.length + 1) false = (Array.replicate t'.length false).push false := by
      rw [← Array.replicate_succ]
    simp only [Region.schedule, hm, Bool.true_or, if_true]
    have h3 := wpAny_sound (t'.length + 1) t _ a _ h2
    rw [← e2, ← e] at h3
    exact h3)
/-- The same, where the region ends by itself. -/
theorem wpIn_region_held_norm {n id k : Nat} {a : Act} {w : World} {l : List Oper} (hF : Lets P F) (m : Nat) {o : Oper} (hdr : l.drop m = [o]) (hd : l.toArray.all noDefer = true) (hm : P.follows .mixedOrders = true) (hL : lastB (l.take m) o = true) (hk : (l.take m).length = k) (hS : S w.drew)
    (h : S w.drew → wpAnyH P .any (l.take m).toArray (lastQ P l.toArray o (onlyN fun a' w' => Q .normal a' w')) S k (Array.replicate k false) a w.drew) : (Code.region id l.toArray true).wpIn F n P Q a w := by
  refine wpIn_mono (wpIn_region_held_last (Q := onlyN fun a' w' => Q .normal a' w') hF m hdr hd (fun _ _ h => h) hm hL hk hS h) ?_
  intro e b X h
  cases e <;> first | exact h | exact False.elim h
end
end Go.Proofs.YtlephnfepofbbaaGreatDoor

/-
  Great: whether steps are more than the statements go through: 0, and then they are few, or 1.
-/
namespace Go.Proofs.YtlephnfepofbbaaGreatDoor
open Go.RowKit

/-- Few steps. -/
structure Few (l : List St) : Prop where
  len : l.length ≤ 100
  each : ∀ x ∈ l, x.mv.length ≤ 60 ∧ x.ord.length ≤ 60 ∧ ∀ m ∈ x.mv, m.b.length ≤ 1100
def Great (l : List St) (w : World) (e : Ending) (w' : World) : Prop := ((e = .returned (.int .i64 0) ∧ Few l) ∨ e = .returned (.int .i64 1)) ∧ Below w.heap.size w w'
def FewT (l : List St) (j : Nat) : Prop := ∀ x ∈ l.take j, x.mv.length ≤ 60 ∧ x.ord.length ≤ 60 ∧ ∀ m ∈ x.mv, m.b.length ≤ 1100
theorem take_all' {α : Type} {p : α → Prop} {l : List α} {k : Nat} (hk : k < l.length) (h : ∀ x ∈ l.take k, p x) (hx : p l[k]) : ∀ x ∈ l.take (k + 1), p x := fun x hm => by
  rw [List.take_add_one, List.getElem?_eq_getElem hk] at hm
  rcases List.mem_append.1 hm with hm | hm
  · exact h x hm
  · have : x = l[k] := by simpa using hm
    rw [this]; exact hx
theorem StepV.cases {D : Nat → Prop} {W : World} {ov mv : Value} {x : St} (h : StepV D W ov mv x) : ∃ A c B d, ov = .slice A x.ord.length c ∧ mv = .slice B x.mv.length d ∧ x.ord.length ≤ 9223372036854775807 ∧ x.mv.length ≤ 9223372036854775807 := by
  obtain ⟨A, c, e, h1, h2, _⟩ := h.1.form
  obtain ⟨B, d, e2, h3, h4, _⟩ := h.2.form
  exact ⟨A, c, B, d, e, e2, by omega, by omega⟩

set_option maxRecDepth 100000 in
set_option maxHeartbeats 8000000 in
theorem great_any (l : List St) (v : Value) (w : World) (hx : SrcS (Lt w.heap.size) w v l) : Calls Tryz.prog 19 #[v] w (Great l w) := by
  obtain ⟨A, c, rfl, a1, a2, a3⟩ := hx.form
  have HX := Lib.hid hx
  obtain ⟨n, hn⟩ : ∃ n, l.length = n := ⟨_, rfl⟩
  rw [hn] at a1 ⊢
  have HN := Lib.hid hn
  clear hx hn a3
  by_cases h1 : 100 < n
  · have h1' : (100 : Int) < (n : Int) := by omega
    clear h1
    go_enter Tryz.func19, Tryz.ntmps19
    go_wp2_with fail
    go_ret
    exact ⟨.inr rfl, Below.refl _ _⟩
  have h1' : ¬ (100 : Int) < (n : Int) := by omega
  have n100 : n ≤ 100 := by omega
  clear h1
  go_enter Tryz.func19, Tryz.ntmps19
  go_wp2_with fail
  go_loopw [3, 11] (fun s i wr => ∃ (j : Nat) (z : Int), j ≤ n ∧ i = .int .i64 j ∧ s = .int .i64 z ∧ 0 ≤ z ∧ z ≤ 4000 ∧ Hid (FewT l j) ∧ ∃ q, wr = w.drewN q) (fun _ i _ => n - (intOf i).toNat)
  case atStart => exact ⟨0, 0, Nat.zero_le _, rfl, rfl, by omega, by omega, Lib.hid (fun z hz => by simp at hz), 0, rfl⟩
  case round =>
    obtain ⟨j, z, hj, rfl, rfl, z0, z1, HF, q, rfl⟩ := hrel
    by_cases hlt : j < n
    · have hlt' : (j : Int) < (n : Int) := by omega
      have hj0 : (0 : Int) ≤ (j : Int) := by omega
      have hjl : j < l.length := by have := HN.out; omega
      obtain ⟨g, off, ov, mv, rfl, hg, hg2, ⟨q0, q1, q2, q3⟩, hS⟩ := HX.out.at_ (k := j) hjl
      obtain ⟨x, hz⟩ : ∃ x, l[j] = x := ⟨_, rfl⟩
      rw [hz] at hS
      obtain ⟨E, e, F, f, rfl, rfl, o1, m1⟩ := hS.cases
      obtain ⟨o, ho⟩ : ∃ o, x.ord.length = o := ⟨_, rfl⟩
      obtain ⟨m, hm⟩ : ∃ m, x.mv.length = m := ⟨_, rfl⟩
      rw [ho] at q2 o1
      rw [hm] at q3 m1
      have HZZ := Lib.hid hz
      have HS := Lib.hid hS.2
      have HO := Lib.hid ho
      have HM := Lib.hid hm
      clear hz hg2 hS hg q0 q1 ho hm
      by_cases hm60 : 60 < m
      · have hm60' : (60 : Int) < (m : Int) := by omega
        clear hm60
        go_wp2_with fail
        go_quiet (fail)
        go_wp2_with fail
        go_ret
        exact ⟨.inr rfl, below_drewN (Below.refl _ _) _⟩
      by_cases ho60 : 60 < o
      · have ho60' : (60 : Int) < (o : Int) := by omega
        have hm60' : ¬ (60 : Int) < (m : Int) := by omega
        clear hm60 ho60
        go_wp2_with fail
        go_quiet (fail)
        go_wp2_with fail
        go_ret
        exact ⟨.inr rfl, below_drewN (Below.refl _ _) _⟩
      have hm60' : ¬ (60 : Int) < (m : Int) := by omega
      have ho60' : ¬ (60 : Int) < (o : Int) := by omega
      have mm : m ≤ 60 := by omega
      have oo : o ≤ 60 := by omega
      have s1 : IntKind.i64.wrap (z + (m : Int)) = z + (m : Int) := IntWalk.i64_in _ (by omega)
      have s2 : IntKind.i64.wrap (z + (m : Int) + (o : Int)) = z + (m : Int) + (o : Int) := IntWalk.i64_in _ (by omega)
      by_cases h5 : 500 < z + (m : Int) + (o : Int)
      · clear hm60 ho60
        go_wp2_with fail
        go_quiet (fail)
        clear s1 s2
        go_wp2_with fail
        go_ret
        exact ⟨.inr rfl, below_drewN (Below.refl _ _) _⟩
      clear hm60 ho60
      go_wp2_with fail
      go_quiet (fail)
      clear s1 s2
      go_wp2_with fail
      go_loop [3, 55] (fun s i => ∃ (k : Nat) (y : Int), k ≤ m ∧ i = .int .i64 k ∧ s = .int .i64 y ∧ 0 ≤ y ∧ y ≤ 500 + 55 * (k : Int) ∧ Hid (∀ b ∈ x.mv.take k, b.b.length ≤ 1100)) (fun _ i => m - (intOf i).toNat)
      case atStart => exact ⟨0, z + (m : Int) + (o : Int), Nat.zero_le _, rfl, rfl, by omega, by omega, Lib.hid (fun z hz => by simp at hz)⟩
      case round =>
        obtain ⟨k, y, hk, rfl, rfl, y0, y1, HB⟩ := hrel
        by_cases hkm : k < m
        · have hkm' : (k : Int) < (m : Int) := by omega
          have hk0 : (0 : Int) ≤ (k : Int) := by omega
          have hkl : k < x.mv.length := by have := HM.out; omega
          obtain ⟨g2, off2, dv, rfl, hg, hg2, ⟨p0, p1, p2, p3⟩, hD⟩ := HS.out.at_ (k := k) hkl
          obtain ⟨G, gc, rfl, d1, d2, d3⟩ := hD.form
          obtain ⟨d, hd⟩ : ∃ d, (x.mv[k]).b.length = d := ⟨_, rfl⟩
          rw [hd] at d1 p3
          have HD := Lib.hid hd
          clear p0 p1 p2 hD hg hg2 d3 hd
          by_cases hd11 : 1100 < d
          · have hd' : (1100 : Int) < (d : Int) := by omega
            go_wp2_with fail
            go_ret
            exact ⟨.inr rfl, below_drewN (Below.refl _ _) _⟩
          · have hd' : ¬ (1100 : Int) < (d : Int) := by omega
            have HB2 : Hid (∀ b ∈ x.mv.take (k + 1), b.b.length ≤ 1100) := Lib.hid (take_all' hkl HB.out (by rw [HD.out]; omega))
            go_wp2_with fail
            go_round
            case rel => exact ⟨k + 1, _, by omega, by go_num, rfl, by omega, by omega, HB2⟩
            case measure => simp [intOf]; omega
        · obtain rfl : k = m := by omega
          have hkm' : ¬ (k : Int) < (k : Int) := by omega
          have HF2 : Hid (FewT l (j + 1)) := Lib.hid (take_all' hjl HF.out (by rw [HZZ.out]; exact ⟨by have := HM.out; omega, by have := HO.out; omega, by have := HB.out; rwa [List.take_of_length_le (by have := HM.out; omega)] at this⟩))
          go_wp2_with fail
          go_roundw
          case rel => exact ⟨j + 1, y, by omega, by go_num, rfl, by omega, by omega, HF2, q + nq, by simp [World.drewN]⟩
          case measure => simp [intOf]; omega
    · obtain rfl : j = n := by omega
      have hlt' : ¬ (j : Int) < (j : Int) := by omega
      have HF2 : Hid (Few l) := Lib.hid ⟨by have := HN.out; omega, by have := HF.out; unfold FewT at this; rwa [List.take_of_length_le (by have := HN.out; omega)] at this⟩
      go_wp2_with fail
      go_ret
      exact ⟨.inl ⟨rfl, HF2.out⟩, below_drewN (Below.refl _ _) _⟩
end Go.Proofs.YtlephnfepofbbaaGreatDoor

/-
  The document's may, May and All.
-/
namespace Go.Proofs.YtlephnfepofbbaaGreatDoor
open Go.RowKit

def wireB (op : Int) : Bool := decide (1 ≤ op) && decide (op ≤ 6)
theorem rwire_any (op : Int) (w : World) : Calls Tryz.prog 93 #[.int .i64 op] w fun e w' => e = .returned (.bool (hasW op)) ∧ w = w' := by
  have HR : Hid (∀ r : Bool, (r = true ↔ (1 ≤ op ∧ op ≤ 6)) → r = hasW op) := Lib.hid fun r h => by rw [Bool.eq_iff_iff, h]; unfold hasW; simp
  generalize hasW op = R at HR ⊢
  go_enter Tryz.func93, Tryz.ntmps93
  go_wp2
  all_goals go_ret
  all_goals exact ⟨retb (HR.out _ (by simp <;> omega)), rfl⟩
theorem rnumber_any (op : Int) (w : World) : Calls Tryz.prog 94 #[.int .i64 op] w fun e w' => e = .returned (.bool (hasN op)) ∧ w = w' := by
  have HR : Hid (∀ r : Bool, (r = true ↔ (op = 2 ∨ op = 6 ∨ op = 7)) → r = hasN op) := Lib.hid fun r h => by rw [Bool.eq_iff_iff, h]; unfold hasN; simp
  generalize hasN op = R at HR ⊢
  go_enter Tryz.func94, Tryz.ntmps94
  go_wp2
  all_goals go_ret
  all_goals exact ⟨retb (HR.out _ (by simp <;> omega)), rfl⟩

theorem stOk_no {x : St} (h : ¬ (x.mv.length ≤ 50 ∧ x.ord.length ≤ 50 ∧ (∀ n ∈ x.ord, 0 ≤ n ∧ n ≤ 999) ∧ ∀ m ∈ x.mv, mvOk m = true)) : stOk x = false := by
  cases e : stOk x with
  | false => rfl
  | true => exact absurd (stOk_parts e) h

theorem allOk_no {l : List St} (h : ¬ (l.length ≤ 2000 ∧ ∀ x ∈ l, stOk x = true)) : allOk l = false := by
  cases e : allOk l with
  | false => rfl
  | true => exact absurd (allOk_parts e) h

end Go.Proofs.YtlephnfepofbbaaGreatDoor

/-
  For the frames of the statements of moves: steps that come in; what the listed variables are.
-/
namespace Go.Proofs.YtlephnfepofbbaaGreatDoor
open Go.ChangeShapes Go.WideShapes Go.ChangeAt Go.RowKit Go.Deep

theorem own : ownKnob Tryz.prog.godebug = none := by kernel_rfl
theorem laidOut : laidOutB Tryz.prog = true := by kernel_rfl
theorem flat_at {α : Type} (f : α → List Value) (k : Nat) (hf : ∀ x, (f x).length = k) : ∀ (xs : List α) (i : Nat) (x : α), xs[i]? = some x → ∀ j, j < k → (xs.flatMap f)[i * k + j]? = (f x)[j]?
  | [], i, x, h, _, _ => by simp at h
  | y :: xs, 0, x, h, j, hj => by
    have : y = x := by simpa using h
    subst this
    rw [List.flatMap_cons, Nat.zero_mul, Nat.zero_add, List.getElem?_append_left (by rw [hf]; exact hj)]
  | y :: xs, i + 1, x, h, j, hj => by
    have ih := flat_at f k hf xs i x (by simpa using h) j hj
    rw [List.flatMap_cons, List.getElem?_append_right (by rw [hf, Nat.succ_mul]; omega), hf, ← ih]
    congr 1
    rw [Nat.succ_mul]; omega
theorem flat_len {α : Type} (f : α → List Value) (k : Nat) (hf : ∀ x, (f x).length = k) : ∀ xs : List α, (xs.flatMap f).length = xs.length * k
  | [] => by simp
  | x :: xs => by rw [List.flatMap_cons, List.length_append, hf, flat_len f k hf xs, List.length_cons, Nat.succ_mul]; omega
section
variable {H : Type} {enc : TypeId × Value → H} {W : World} {base : Nat} {held : Bool}
theorem sh_of_trod {α : Type} [Inhabited α] {fuel : Nat} {t e : TypeId} {v : Value} {y : DataW H × List MemPlace} (ek : α → List Value) (k : Nat) (hk : 0 < k) (hel : ∀ x, (ek x).length = k) (Ok : α → Prop)
    (ht : Tryz.prog.underlying t = some (.slice e)) (hc : Tryz.prog.cellsOf e = k) (h : DataW.trod enc Tryz.prog W base (fun _ => true) held fuel t [v] = some y)
    (each : ∀ n cs y, DataW.trod enc Tryz.prog W base (fun _ => true) held n e cs = some y → cs.length = k → ∃ x, Ok x ∧ cs = ek x) :
    ∃ xs : List α, (∀ x ∈ xs, Ok x) ∧ Sh (Lt W.heap.size) W v xs.length (xs.flatMap ek) := by
  rcases open_slice ht h with ⟨hcs, _⟩ | ⟨a, len, cap, m, n, D, Pl, hcs, hb, hl, hm, hmm, hx, hi⟩
  · have : v = .slice none 0 0 := by simpa using hcs
    subst this
    exact ⟨[], fun x hx => by simp at hx, none, 0, rfl, Nat.le_refl _, by omega, fun _ => rfl, fun h => by simp at h⟩
  · have : v = .slice (some a) len cap := by simpa using hcs
    subst this
    have hlm : len ≤ m := by rw [hmm]; split <;> omega
    have each' : ∀ i, i < len → ∃ x, Ok x ∧ ∀ j, j < k → W.cell? (a.add (i * k + j)) = (ek x)[j]? := fun i hil => by
      obtain ⟨cs', h1, h2⟩ := hi i (by omega)
      rw [hc] at h1
      obtain ⟨_, hlen, hcell⟩ := World.cells?_some h1
      obtain ⟨x, hok, rfl⟩ := each _ _ _ h2 hlen
      refine ⟨x, hok, fun j hj => ?_⟩
      have e1 := hcell j (by omega)
      rw [add_add] at e1
      rw [e1]
    obtain ⟨X, hX⟩ := choose_lt each'
    have hlen : ((List.range len).map X).length = len := by simp
    refine ⟨(List.range len).map X, fun x hx => ?_, some a, cap, by rw [hlen], by rw [hlen]; exact hl, by unfold maxLen at hm; omega, (fun e => by cases e), fun h0 => ?_⟩
    · obtain ⟨i, hi', rfl⟩ := List.mem_map.1 hx
      exact (hX i (by have := List.mem_range.1 hi'; omega)).1
    · rw [hlen] at h0
      obtain ⟨b, off, spot⟩ := a
      have h1 := (hX 0 h0).2 0 hk
      have h1' : ∃ u, W.cell? ((⟨b, off, spot⟩ : Addr).add (0 * k + 0)) = some u := ⟨_, h1.trans (List.getElem?_eq_getElem (by rw [hel]; exact hk))⟩
      obtain ⟨u0, h1'⟩ := h1'
      have hs : spot = none := by simpa [Addr.add] using World.cell?_spot h1'
      subst hs
      have hadd : ∀ j, (⟨b, off, none⟩ : Addr).add j = ⟨b, off + j, none⟩ := fun j => by unfold Addr.add; split <;> simp_all
      have hbl := World.block_lt_of_cell? W _ h1'
      rw [hadd] at hbl
      refine ⟨b, off, rfl, hbl, hbl, fun j u hu => ?_⟩
      have hjl : j < len * k := by
        have := (List.getElem?_eq_some_iff.1 hu).1
        rwa [flat_len ek k hel, hlen] at this
      have hq : j / k < len := Nat.div_lt_of_lt_mul (by rw [Nat.mul_comm]; exact hjl)
      have hr : j % k < k := Nat.mod_lt _ hk
      have ej : j / k * k + j % k = j := Nat.div_add_mod' j k
      have e1 := flat_at ek k hel ((List.range len).map X) (j / k) (X (j / k)) (by rw [List.getElem?_map, List.getElem?_range hq]; rfl) (j % k) hr
      rw [ej, hu] at e1
      have e2 := (hX (j / k) hq).2 (j % k) hr
      rw [ej, hadd, ← e1] at e2
      exact e2
theorem open_bytes {fuel : Nat} {v : Value} {y : DataW H × List MemPlace} (h : DataW.trod enc Tryz.prog W base (fun _ => true) held fuel 23 [v] = some y) : ∃ b : List UInt8, SrcB (Lt W.heap.size) W v b := by
  obtain ⟨xs, _, hs⟩ := sh_of_trod (α := UInt8) (fun b => [Value.int .u8 (b.toNat : Int)]) 1 (by decide) (fun _ => rfl) (fun _ => True) Tryz.underlying23 (by kernel_rfl) h (fun n cs y hy hl => by
    obtain ⟨z, rfl, _, hz⟩ := DataW.trod_int Tryz.underlying5 hy
    have hb := bounds_u8 hz
    refine ⟨UInt8.ofNat z.toNat, trivial, ?_⟩
    rw [UInt8.toNat_ofNat']
    congr 2
    omega)
  refine ⟨xs, ?_⟩
  have e : xs.flatMap (fun b => [Value.int .u8 (b.toNat : Int)]) = Lib.byteCells xs := by
    unfold Lib.byteCells
    rw [List.map_eq_flatMap]
  rw [e] at hs
  exact hs
theorem open_nums {fuel : Nat} {v : Value} {y : DataW H × List MemPlace} (h : DataW.trod enc Tryz.prog W base (fun _ => true) held fuel 34 [v] = some y) : ∃ l : List Int, (∀ n ∈ l, I64 n) ∧ SrcI (Lt W.heap.size) W v l := by
  obtain ⟨xs, hok, hs⟩ := sh_of_trod (α := Int) (fun n => [Value.int .i64 n]) 1 (by decide) (fun _ => rfl) I64 Tryz.underlying34 (by kernel_rfl) h (fun n cs y hy hl => by
    obtain ⟨z, rfl, _, hz⟩ := DataW.trod_int Tryz.underlying3 hy
    exact ⟨z, by have := bounds_i64 hz; unfold I64; omega, rfl⟩)
  refine ⟨xs, hok, ?_⟩
  have e : xs.flatMap (fun n => [Value.int .i64 n]) = xs.map (Value.int .i64) := by rw [List.map_eq_flatMap]
  rw [e] at hs
  exact hs
theorem cellsI : Tryz.prog.cellsOf 3 = 1 := by kernel_rfl
theorem cellsB : Tryz.prog.cellsOf 4 = 1 := by kernel_rfl
theorem cellsU : Tryz.prog.cellsOf 33 = 1 := by kernel_rfl
theorem cellsBs : Tryz.prog.cellsOf 23 = 1 := by kernel_rfl
theorem cellsIs : Tryz.prog.cellsOf 34 = 1 := by kernel_rfl
theorem cellsMs : Tryz.prog.cellsOf 26 = 1 := by kernel_rfl
instance : Inhabited (Mo × Value) := ⟨(default, .slice none 0 0)⟩
instance : Inhabited (St × Value × Value) := ⟨(default, .slice none 0 0, .slice none 0 0)⟩
set_option maxRecDepth 100000 in
theorem open_moves {fuel : Nat} {v : Value} {y : DataW H × List MemPlace} (h : DataW.trod enc Tryz.prog W base (fun _ => true) held fuel 26 [v] = some y) : ∃ ms : List Mo, (∀ m ∈ ms, m.Wf) ∧ SrcM (Lt W.heap.size) W v ms := by
  obtain ⟨xs, hok, hs⟩ := sh_of_trod (α := Mo × Value) encM 4 (by decide) (fun _ => rfl) (fun p => p.1.Wf ∧ SrcB (Lt W.heap.size) W p.2 p.1.b) Tryz.underlying26 (by kernel_rfl) h (fun n cs y hy hl => by
    obtain ⟨xs, k, hk, hxy, _, hxl, hf⟩ := DataW.trod_struct Tryz.underlying25 hy
    match xs, hxl, cs, hl with
    | [y0, y1, y2, y3], _, [v0, v1, v2, v3], _ =>
      have g0 := hf 0 _ rfl
      have g1 := hf 1 _ rfl
      have g2 := hf 2 _ rfl
      have g3 := hf 3 _ rfl
      simp [cellsI, cellsBs] at g0 g1 g2 g3
      obtain ⟨x0, f0, _, q0⟩ := DataW.trod_int Tryz.underlying3 g0
      obtain ⟨x1, f1, _, q1⟩ := DataW.trod_int Tryz.underlying3 g1
      obtain ⟨x2, f2, _, q2⟩ := DataW.trod_int Tryz.underlying3 g2
      simp at f0 f1 f2
      subst f0 f1 f2
      obtain ⟨b, hb⟩ := open_bytes g3
      have b0 := bounds_i64 q0
      have b1 := bounds_i64 q1
      have b2 := bounds_i64 q2
      exact ⟨(⟨x0, x1, x2, b⟩, v3), ⟨by show I64 x0 ∧ I64 x1 ∧ I64 x2; unfold I64; omega, hb⟩, rfl⟩)
  exact ⟨xs.map Prod.fst, fun m hm => by
    obtain ⟨p, hp, rfl⟩ := List.mem_map.1 hm
    exact (hok p hp).1, xs, rfl, hs, fun p hp => (hok p hp).2⟩
set_option maxRecDepth 100000 in
theorem open_steps_trod {fuel : Nat} {v : Value} {y : DataW H × List MemPlace} (h : DataW.trod enc Tryz.prog W base (fun _ => true) held fuel 37 [v] = some y) : ∃ l : List St, (∀ x ∈ l, x.Wf) ∧ SrcS (Lt W.heap.size) W v l := by
  obtain ⟨xs, hok, hs⟩ := sh_of_trod (α := St × Value × Value) encS 4 (by decide) (fun _ => rfl) (fun p => p.1.Wf ∧ StepV (Lt W.heap.size) W p.2.1 p.2.2 p.1) Tryz.underlying37 (by kernel_rfl) h (fun n cs y hy hl => by
    obtain ⟨xs, k, hk, hxy, _, hxl, hf⟩ := DataW.trod_struct Tryz.underlying36 hy
    match xs, hxl, cs, hl with
    | [y0, y1, y2, y3], _, [v0, v1, v2, v3], _ =>
      have g0 := hf 0 _ rfl
      have g1 := hf 1 _ rfl
      have g2 := hf 2 _ rfl
      have g3 := hf 3 _ rfl
      simp [cellsU, cellsB, cellsIs, cellsMs] at g0 g1 g2 g3
      obtain ⟨x0, f0, _, q0⟩ := DataW.trod_int Tryz.underlying33 g0
      obtain ⟨x1, f1, _⟩ := DataW.trod_bool Tryz.underlying4 g1
      simp at f0 f1
      subst f0 f1
      obtain ⟨ord, ho, hO⟩ := open_nums g2
      obtain ⟨ms, hm, hM⟩ := open_moves g3
      have b0 := bounds_u64 q0
      refine ⟨(⟨x0.toNat, x1, ord, ms⟩, v2, v3), ⟨⟨by show x0.toNat ≤ _; omega, ho, hm⟩, hO, hM⟩, ?_⟩
      show [Value.int .u64 x0, _, _, _] = [Value.int .u64 (x0.toNat : Int), _, _, _]
      rw [Int.toNat_of_nonneg (by omega)])
  exact ⟨xs.map Prod.fst, fun m hm => by
    obtain ⟨p, hp, rfl⟩ := List.mem_map.1 hm
    exact (hok p hp).1, xs, rfl, hs, fun p hp => (hok p hp).2⟩
set_option maxRecDepth 100000 in
theorem open_steps {b0 : Nat} {r : Reach} {v : Value} {d : DataW H} {p : List MemPlace}
    (hv : Value.okWide Tryz.prog W r b0 37 v) (h : DataW.Trod enc Tryz.prog W base (fun _ => true) held 37 v d p) : ∃ l : List St, (∀ x ∈ l, x.Wf) ∧ SrcS (Lt W.heap.size) W v l := by
  obtain ⟨a0, len0, cap0, rfl⟩ := okWide_slice Tryz.underlying37 hv
  obtain ⟨fuel, hf⟩ := h
  exact open_steps_trod (by simpa [Value.cells] using hf)
end
end Go.Proofs.YtlephnfepofbbaaGreatDoor
