/-
  Connect and Accept: the first connection that waits at a listener.
-/
import Derived.Test.YtjejpgognfadoaaGreatDoorWdWait
namespace Go.Proofs.YtjejpgognfadoaaGreatDoor
open Go.RowKit Go.Shelf Go.Maps Go.ChangeMaps

attribute [local go_sem] Oper.semAt_some

/-- A connection more waits at a listener; others than before wait. -/
def Wi.rose (x : Wi) : Wi := x.set false { x.e false with rd := (x.e false).rd + 1 }
def Wi.more (x : Wi) (j : Nat) : Wi := { x.rose with wait := x.wait ++ [j] }
def Wi.left (x : Wi) (l : List Nat) : Wi := { x with wait := l }
theorem Wi.sameR_more (x : Wi) (j : Nat) : x.sameR (x.more j) := Wi.sameR_set x false { x.e false with rd := (x.e false).rd + 1 } rfl rfl rfl

section
variable {w w' : World} {g n : Nat} {r : Bool → Nat} {v : Value} {x : Wi}
theorem Wb.setV (h : Wb w g n r v x) (u : Value) : Wb (w.setCell ⟨g, 17, none⟩ u) g n r u x := by
  have := Blk.set_ h 17 u; exact this
theorem Wb.waits (h : Wb w g n r v x) (l : List Nat) : Wb w g n r v { x with wait := l } := h
set_option maxRecDepth 100000 in
set_option maxHeartbeats 1000000 in
theorem wait_first (h : Wb w g n r (.slice none 0 0) x) (y : Nat) (hN : x.le 900000000) :
    Calls Tryz.prog 49 #[.pointer (some ⟨g, 0, none⟩), .pointer (some ⟨y, 0, none⟩)] w fun e w' =>
      e = .returned (.tuple #[]) ∧ ∃ v, RP.own w' w.heap.size v [y] ∧ Wb w' g n r v x.rose ∧ Kept (fun b => b = g) w w' := by
  have H := Lib.hid h
  have hb := (hN false).2.1
  have e1 : IntKind.u64.wrap (((x.e false).rd : Int) + 1) = (((x.e false).rd + 1 : Nat) : Int) := by rw [IntWalk.u64_in _ (by omega)]; omega
  have b1 : (0 : Int) ≤ ((x.e false).rd : Int) := by omega
  have b2 : ((x.e false).rd : Int) ≤ 1000000000 := by omega
  have c17 := h.w17
  have f17 := h.frozen 17
  have lg := h.lt
  clear h hN
  go_enter Tryz.func49, Tryz.ntmps49
  go_wp2_with (at_builtin; refine RowK.append (R := RP) rfl _ _ rfl w.heap.size (.slice none 0 0) [] [y] rfl (RowK.own_nil _ _) (some ⟨w.heap.size, 0, none⟩) 1 1 rfl rfl (RowK.new_shows (R := RP) w y 65) (fun e => by cases e) (by simp) (by simp) ?_; intro v2 w2 O2 hg2 ho2; have h2 : Wb w2 g n r (.slice none 0 0) x := H.out.same (RowK.grown_far hg2 lg (fun e => by cases e)); obtain ⟨A2, n2, c2, hu2⟩ := RowK.own_slice O2; subst hu2; have d17 := h2.w17; have g17 := h2.frozen 17; have lg2 := h2.lt; have h3 := h2.setV (.slice A2 n2 c2); have c6 := h3.c5 false; have f6 := h3.frozen 6; rw [off_f] at c6; have lg3 := h3.lt; have HP := Lib.hid (And.intro O2 (And.intro h2 (And.intro hg2 ho2))); clear O2 h2 h3 hg2 ho2)
  obtain ⟨w3, hw3⟩ : ∃ w3, w3 = w2.setCell ⟨g, 17, none⟩ (.slice A2 n2 c2) := ⟨_, rfl⟩
  rw [← hw3] at c6 f6 lg3 ⊢
  have H3 := Lib.hid hw3
  clear hw3
  go_still_tail 11, (by kernel_rfl)
  change wpList _ _ _ _ _ w3.drew
  go_wp2_with fail
  go_end0
  obtain ⟨O2, h2, hg2, ho2⟩ := HP.out
  have hd : Wb w3.drew g n r (.slice A2 n2 c2) x := by rw [H3.out]; exact (h2.setV (.slice A2 n2 c2)).drewN 1
  have h3 := hd.set5 false ((x.e false).rd + 1)
  have hw := H3.out
  subst hw
  have hlt : ∀ b, (Value.slice A2 n2 c2).ownBlock = some b → w.heap.size ≤ b := fun b e => (RowK.own_lt O2 e).2
  refine ⟨rfl, _, RowK.own_same O2 (fun b e => ?_), h3, ?_⟩
  · have := hlt b e
    have := H.out.lt
    exact (Below.heap_setCell _ _ _ _ (show b ≠ g by omega)).trans (Below.heap_setCell _ _ _ _ (show b ≠ g by omega))
  · have hk : Kept (fun b => b = g) w w2 := ⟨hg2.os, hg2.tape, hg2.output, by have := hg2.size; simp at this; omega, fun b hb' hn => RowK.grown_far hg2 hb' (fun e => by cases e)⟩
    exact ((hk.setCell (p := ⟨g, 17, none⟩) rfl _).drewN 1).setCell (p := ⟨g, 6, none⟩) rfl _
/-- The first one of those that wait. -/
theorem next_any {q o m c y : Nat} (h : Wb w g n r (.slice (some ⟨q, o, none⟩) (m + 1) c) x) (hc : w.cell? ⟨q, o, none⟩ = some (.pointer (some ⟨y, 0, none⟩))) (hq : q < w.heap.size) (hm : m + 1 ≤ c) :
    Calls Tryz.prog 51 #[.pointer (some ⟨g, 0, none⟩)] w fun e w' =>
      e = .returned (.pointer (some ⟨y, 0, none⟩)) ∧ Wb w' g n r (.slice (if c = 1 then (some ⟨q, o, none⟩ : Option Addr) else some ⟨q, o + 1, none⟩) m (c - 1)) x ∧ Kept (fun b => b = g) w w' := by
  have H := Lib.hid h
  have c17 := h.w17
  have f17 := h.frozen 17
  have lg := h.lt
  have b1 : (0 : Int) < ((m + 1 : Nat) : Int) := by omega
  have b2 : (1 : Int) ≤ ((m + 1 : Nat) : Int) := by omega
  have b3 : ((m + 1 : Nat) : Int) ≤ (c : Int) := by omega
  have b4 : (1 : Int) ≤ (c : Int) := by omega
  have HE := Lib.hid (fun u => And.intro (h.setV u) ((Kept.refl (fun b => b = g) w).setCell (p := ⟨g, 17, none⟩) rfl u))
  clear h
  by_cases hc1 : c = 1
  · rw [if_pos hc1]
    subst hc1
    obtain rfl : m = 0 := by omega
    go_enter Tryz.func51, Tryz.ntmps51
    go_wp2_with fail
    go_ret
    exact ⟨rfl, HE.out _⟩
  · rw [if_neg hc1]
    go_enter Tryz.func51, Tryz.ntmps51
    go_wp2_with fail
    go_ret
    exact ⟨rfl, HE.out _⟩
end
section
variable {w w' : World} {B : Nat} {L : Lay} {S : Ws}
/-- What a connection at a listener leaves. -/
def Conn (w : World) (B : Nat) (L : Lay) (S S' : Ws) (w' : World) : Prop := ∃ L', Wd w' B L' S' ∧ L'.p = L.p ∧ Mv w w' L.F L'.F
set_option maxRecDepth 100000 in
set_option maxHeartbeats 4000000 in
theorem wConnect_first (h : Wd w B L S) {i : Nat} {x : Wi} (hx : S.ws[i]? = some x) (hv : L.wt i = .slice none 0 0) (hw0 : x.wait = []) (hbk : 1 ≤ x.back) (hbm : x.back ≤ 64) (his : (x.e false).is = 1) (n : Nat) (h1 : 1 ≤ n) (h2 : n ≤ 65536) (hl : S.ws.length < 1000) (hN : x.le 900000000) :
    Calls Tryz.prog 14 #[.pointer (some ⟨L.p, 0, none⟩), .int .i64 (i : Int), .int .i64 (n : Int)] w fun e w' =>
      e = .returned (.tuple #[.int .i64 (S.ws.length : Int), .int .i64 0]) ∧ Conn w B L S ((S.addW (outW n)).setW i (x.more S.ws.length)) w' := by
  have hi := (List.getElem?_eq_some_iff.1 hx).1
  have HW := Lib.hid (wire_yes h hi)
  have hwb := (h.wire i x hx).blk
  have w16 := hwb.w16
  have w17 := hwb.w17
  rw [hv] at w17
  have c2 := hwb.c2 false
  rw [his, off_f] at c2
  have lg := hwb.lt
  obtain ⟨A, c, ev⟩ := h.wlen
  have c1 := h.kept.c1
  rw [ev] at c1
  have lk := h.kept.lt
  have lp := h.top.lt
  have c0 := h.top.cell 0
  simp at c0
  have HL := Lib.hid (fun q => wlayOut_any (h.drewN q) n h2 (by omega))
  have H := Lib.hid (And.intro h (And.intro hx (And.intro hw0 (And.intro hN (And.intro hi hv)))))
  have b1 : (1 : Int) ≤ (x.back : Int) := by omega
  have b2 : (x.back : Int) ≤ 64 := by omega
  have b3 : ¬ (x.back : Int) = 0 := by omega
  have b4 : ((x.back : Int) == 0) = false := by simpa using b3
  have b5 : ¬ (n : Int) < 1 := by omega
  have b6 : ¬ (65536 : Int) < (n : Int) := by omega
  have b7 : ¬ (S.ws.length : Int) = 1000 := by omega
  have b8 : ((S.ws.length : Int) == 1000) = false := by simpa using b7
  have b9 : ((0 : Int) == (x.back : Int)) = false := by simp; omega
  have b10 : ¬ (0 : Int) = (x.back : Int) := by omega
  obtain ⟨bk, hbk⟩ : ∃ bk, bk = (x.back : Int) := ⟨_, rfl⟩
  rw [← hbk] at b1 b2 b3 b4 b9 b10 w16
  clear h hx hwb hv ev hbk hN his hw0 hbm hl
  go_enter Tryz.func14, Tryz.ntmps14
  go_wp2_with fail
  refine HW.out.mono ?_
  rintro e w1 ⟨rfl, rfl⟩
  go_wp2_with fail
  go_quiet (fail)
  go_wp2_with fail
  refine (HL.out nq).mono ?_
  rintro e w2 ⟨_, rfl, L2, g, rfl, h1, h2, h3, h4, h5⟩
  obtain ⟨h, hx, hw0, hN, hi, hv⟩ := H.out
  have hx2 := Ws.addW_old (x := outW n) hx
  have hb2 := (h1.wire _ _ hx2).blk
  rw [h2.wt i hi, hv, h2.wa i hi] at hb2
  have HWt := Lib.hid (wait_first hb2 g hN)
  have H2 := Lib.hid (And.intro h1 (And.intro h2 (And.intro h3 (And.intro h4 hb2))))
  clear h hx hw0 hN hi hv hx2 hb2 h1 h2 h3 h4 h5
  go_wp2_with fail
  refine HWt.out.mono ?_
  rintro e w3 ⟨rfl, v, O3, hb3, hk3⟩
  obtain ⟨h, hx, hw0, hN, hi, hv⟩ := H.out
  obtain ⟨h1, h2, h3, h4, hb2⟩ := H2.out
  have hx2 := Ws.addW_old (x := outW n) hx
  have hm : (x.more S.ws.length).wait = [S.ws.length] := by unfold Wi.more; simp [hw0]
  obtain ⟨A3, c3, ev3, hs3, hn3, hc3⟩ := RowK.own_shows O3
  obtain ⟨L3, k1, k2, k3, k4, k5, k6⟩ := h1.setWait (y := x.more S.ws.length) (v := v) (A := A3) (c := c3) (W' := w3) hx2 (hk3.mono fun b _ e => .inl (e.trans (h2.wa i hi).symm)) (by rw [h2.wa i hi]; exact hb3) (Wi.sameR_more x _) (by rw [hm]; exact ev3) (by rw [hm]; exact hc3) (fun e => (hn3 e).1) (by rw [hm]; show RP.shows w3 A3 [L2.wa S.ws.length]; rw [h3]; exact hs3) (fun b e => ⟨.inr (RowK.own_lt O3 e).2, (RowK.own_lt O3 e).1⟩) (fun j hj => by rw [hm] at hj; simp at hj; subst hj; rw [Ws.addW_len]; omega)
  have hy : ((S.addW (outW n)).setW i (x.more S.ws.length)).ws[S.ws.length]? = some (outW n) := by
    unfold Ws.setW
    simp only [List.getElem?_set]
    rw [if_neg (by omega)]
    exact Ws.addW_last S (outW n)
  have hwy := (k1.wire _ _ hy).blk
  rw [k4, h3] at hwy
  have y0 := hwy.w0
  have lg3 := hwy.lt
  have HE := Lib.hid (show Conn w B L S ((S.addW (outW n)).setW i (x.more S.ws.length)) w3 from ⟨L3, k1, k2.trans h2.p, (show Mv w (w.drewN nq) L.F L.F from ⟨(Kept.refl _ w).drewN nq, fun _ e => .inl e⟩).trans (h4.trans k6)⟩)
  clear h hx hw0 hN hi hv hx2 hb2 h1 h2 h3 h4 hm O3 hb3 hk3 ev3 hs3 hn3 hc3 k1 k2 k3 k4 k5 k6 hy hwy
  go_wp2_with fail
  go_ret2
  exact ⟨rfl, HE.out⟩
set_option maxRecDepth 100000 in
set_option maxHeartbeats 4000000 in
theorem wConnect_again (h : Wd w B L S) {i : Nat} {x : Wi} (hx : S.ws[i]? = some x) (hbk : 1 ≤ x.back) (hbm : x.back ≤ 64) (hwl : x.wait.length = x.back) (his : (x.e false).is = 1) (n : Nat) (h1 : 1 ≤ n) (h2 : n ≤ 65536) :
    Calls Tryz.prog 14 #[.pointer (some ⟨L.p, 0, none⟩), .int .i64 (i : Int), .int .i64 (n : Int)] w fun e w' => e = .returned (.tuple #[.int .i64 0, .int .i64 113]) ∧ ∃ q, w' = w.drewN q := by
  have hi := (List.getElem?_eq_some_iff.1 hx).1
  have HW := Lib.hid (wire_yes h hi)
  have hwb := (h.wire i x hx).blk
  obtain ⟨A, c, e1, e2, _⟩ := h.wait i x hx
  have w16 := hwb.w16
  have w17 := hwb.w17
  rw [e1, hwl] at w17
  have c2 := hwb.c2 false
  rw [his, off_f] at c2
  have lg := hwb.lt
  have b1 : (1 : Int) ≤ (x.back : Int) := by omega
  have b2 : (x.back : Int) ≤ 64 := by omega
  have b3 : ¬ (x.back : Int) = 0 := by omega
  have b4 : ((x.back : Int) == 0) = false := by simpa using b3
  have b5 : ¬ (n : Int) < 1 := by omega
  have b6 : ¬ (65536 : Int) < (n : Int) := by omega
  obtain ⟨bk, hbk⟩ : ∃ bk, bk = x.back := ⟨_, rfl⟩
  rw [← hbk] at b1 b2 b3 b4 w16 w17
  clear h hx hwb hbk his hbm e1 e2 hwl
  go_enter Tryz.func14, Tryz.ntmps14
  go_wp2_with fail
  refine HW.out.mono ?_
  rintro e w1 ⟨rfl, rfl⟩
  go_wp2_with fail
  go_quiet (fail)
  go_wp2_with fail
  go_ret2
  exact ⟨rfl, _, rfl⟩
end
section
variable {w w' : World} {B : Nat} {L : Lay} {S : Ws}
/-- What next leaves. -/
theorem wnext_any (h : Wd w B L S) {i j : Nat} {l : List Nat} {x : Wi} (hx : S.ws[i]? = some x) (hw : x.wait = j :: l) :
    Calls Tryz.prog 51 #[.pointer (some ⟨L.wa i, 0, none⟩)] w fun e w' => e = .returned (.pointer (some ⟨L.wa j, 0, none⟩)) ∧
      ∃ L', Wd w' B L' (S.setW i (x.left l)) ∧ L'.p = L.p ∧ L'.kb = L.kb ∧ L'.wa = L.wa ∧ Mv w w' L.F L'.F := by
  have hwb := (h.wire i x hx).blk
  obtain ⟨A, c, e1, e2, e3, e4, e5⟩ := h.wait i x hx
  rw [hw] at e1 e2 e4
  obtain ⟨q, o, rfl, hq, hl⟩ := e4 (by simp)
  rw [e1] at hwb
  have hc0 : w.cell? ⟨q, o, none⟩ = some (.pointer (some ⟨L.wa j, 0, none⟩)) := by
    have := hl 0 (L.wa j) rfl 0 (by decide)
    exact this
  have HN := next_any (m := l.length) hwb hc0 hq (by simpa using e2)
  have ho := e5 _ rfl
  have hne : L.wa i ≠ q := fun e => by
    have := h.owire i (List.getElem?_eq_some_iff.1 hx).1
    rw [e] at this
    rw [this] at ho; cases ho
  refine HN.mono ?_
  rintro e w' ⟨rfl, hb, hk⟩
  have hcd := RowK.cut_drop (R := RP) hl hq (by simpa using e2) 1
  have hrow : w'.heap[q]? = w.heap[q]? := hk.block q hq (fun e => hne e.symm)
  obtain ⟨L', k1, k2, k3, k4, _, k5⟩ := h.setWait (y := x.left l) (v := .slice (if c = 1 then (some ⟨q, o, none⟩ : Option Addr) else some ⟨q, o + 1, none⟩) l.length (c - 1)) hx (hk.mono fun b _ e => .inl e) hb (Wi.sameR.refl x) rfl (by
      show l.length ≤ c - 1
      rw [List.length_cons] at e2; omega) (fun e => by split at e <;> cases e) (RowK.shows_same hcd (fun g hg => by
        have : g = q := by split at hg <;> cases hg <;> rfl
        subst this; exact hrow) hk.size) (fun b e => by
        have : b = q := by
          split at e <;> cases e <;> rfl
        subst this
        exact ⟨.inl ho, Nat.lt_of_lt_of_le hq hk.size⟩) (fun a ha => h.wtok i x hx a (by rw [hw]; exact List.mem_cons_of_mem _ ha))
  exact ⟨rfl, L', k1, k2, k3, k4, k5⟩

/-- What Accept leaves. -/
def Accd (w : World) (B : Nat) (L : Lay) (S' : Ws) (w' : World) : Prop := ∃ L', Wd w' B L' S' ∧ L'.p = L.p ∧ Mv w w' L.F L'.F
set_option maxRecDepth 100000 in
set_option maxHeartbeats 4000000 in
theorem wAccept_any (h : Wd w B L S) {n : Int} {i j : Nat} {k : Bool} {l : List Nat} {x y : Wi} (hf : S.fd n = some (i, k)) (hx : S.ws[i]? = some x) (hw : x.wait = j :: l) (hbk : 1 ≤ x.back) (hbm : x.back ≤ 64) {a : Nat} (ha : S.frees[0]? = some a)
    (hy : (S.setW i (x.left l)).ws[j]? = some y) (hwl : x.wait.length ≤ 1000) :
    Calls Tryz.prog 15 #[.pointer (some ⟨L.p, 0, none⟩), .int .i64 n] w fun e w' =>
      e = .returned (.tuple #[.int .i64 (a : Int), .int .i64 (j : Int), .int .i64 0]) ∧ Accd w B L ((S.setW i (x.left l)).opened j false a) w' := by
  have HF := Lib.hid (find_yes h hf)
  have hwb := (h.wire i x hx).blk
  have p0 := hwb.c0 k
  have w16 := hwb.w16
  have w17 := hwb.w17
  have lg := hwb.lt
  obtain ⟨A, c, e1, e2, e3, _, _⟩ := h.wait i x hx
  rw [e1] at w17
  have c0 := h.top.cell 0
  simp at c0
  have lp := h.top.lt
  have lk := h.kept.lt
  have hfl : 1 ≤ S.frees.length := by have := (List.getElem?_eq_some_iff.1 ha).1; omega
  have hta : S.frees.take 1 = [a] := by obtain ⟨b, hb, hb2⟩ := take_one hfl; rw [ha] at hb; cases hb; exact hb2
  have HFr := Lib.hid (free_any h.kept 1 (by omega) (by omega))
  have HN := Lib.hid (And.intro (frees_numsA L S) (And.intro hfl hta))
  have HA := Lib.hid (And.intro ha (Ws.frees_lt ha))
  have b1 : (1 : Int) ≤ (x.back : Int) := by omega
  have b2 : (x.back : Int) ≤ 64 := by omega
  have b3 : ¬ (x.back : Int) = 0 := by omega
  have b4 : ((x.back : Int) == 0) = false := by simpa using b3
  have hwn : 1 ≤ x.wait.length := by rw [hw]; simp
  have b5 : (1 : Int) ≤ (x.wait.length : Int) := by omega
  have b6 : ¬ (x.wait.length : Int) = 0 := by omega
  have b7 : ((x.wait.length : Int) == 0) = false := by simpa using b6
  have b8 : (x.wait.length : Int) ≤ 1000 := by omega
  have H := Lib.hid (And.intro h (And.intro hx (And.intro hw hy)))
  obtain ⟨bk, hbk'⟩ : ∃ bk, bk = x.back := ⟨_, rfl⟩
  rw [← hbk'] at b1 b2 b3 b4 w16
  obtain ⟨wl, hwl'⟩ : ∃ wl, wl = x.wait.length := ⟨_, rfl⟩
  rw [← hwl'] at b5 b6 b7 b8 w17
  obtain ⟨g, hg⟩ : ∃ g, g = L.wa i := ⟨_, rfl⟩
  have HG := Lib.hid hg
  rw [← hg] at HF p0 w16 w17 lg
  clear h hx hwb hbk hbm hbk' hwl hwl' e1 e2 e3 hf ha hfl hta hw hwn hy hg
  go_enter Tryz.func15, Tryz.ntmps15
  go_wp2_with fail
  refine HF.out.mono ?_
  rintro e w1 ⟨rfl, rfl⟩
  go_wp2_with fail
  refine HFr.out.mono ?_
  rintro e w1 ⟨hb, (⟨_, v, rfl, hv⟩ | ⟨hlt, _⟩)⟩
  · rw [HN.out.1, HN.out.2.2] at hv
    obtain ⟨A1, c1, rfl, hA⟩ := ri_at hv
    obtain ⟨g0, rfl, hg0, hg1, hc⟩ := hA (by simp)
    obtain ⟨h, hx, hw, hy⟩ := H.out
    have h1 := h.below hb
    have p1 := (h1.wire i x hx).blk.c0 k
    rw [← HG.out] at p1
    have lg1 := (h1.wire i x hx).blk.lt
    rw [← HG.out] at lg1
    have HX := Lib.hid (wnext_any h1 hx hw)
    rw [← HG.out] at HX
    have HB := Lib.hid (And.intro (h.beside hb.size hg0 hg1) (And.intro hb (hc 0 a rfl)))
    clear h hx hw hy h1 hb hv hA hc
    go_wp2_with fail
    refine HX.out.mono ?_
    rintro e w2 ⟨rfl, L2, h1, h2, h3, h4, h5⟩
    obtain ⟨h, hx, hw, hy⟩ := H.out
    have d0 := h1.top.cell 0
    rw [h2, h3] at d0
    simp at d0
    obtain ⟨b1, b2⟩ := HB.out.1.mv h5
    have e0 : w2.cell? ⟨g0, 0, none⟩ = some (.int .i64 (a : Int)) := (World.cell?_of_block b2).trans HB.out.2.2
    have lg0 := b1.1
    have lp2 : L.p < w2.heap.size := by have := h1.top.lt; rw [h2] at this; exact this
    have hwy := (h1.wire _ _ hy).blk
    rw [h4] at hwy
    have ly := hwy.lt
    have HO := Lib.hid (wopen_any (h1.drewN 1) hy false a HA.out.2)
    rw [h4, off_f, h3] at HO
    have H2 := Lib.hid (And.intro h1 (And.intro h2 (And.intro h3 (And.intro h4 (And.intro h5 b1)))))
    clear h hx hw hy h1 h2 h3 h4 h5 b1 b2 hwy
    go_wp2_with fail
    go_still_tail 11, (by kernel_rfl)
    change wpList _ _ _ _ _ w2.drew
    go_wp2_with fail
    refine HO.out.mono ?_
    rintro e w3 ⟨rfl, L3, k1, k2, k3⟩
    obtain ⟨h1, h2, h3, h4, h5, b1⟩ := H2.out
    obtain ⟨h, hx, hw, hy⟩ := H.out
    have hm2 : Mv w2 w3 L2.F L3.F := ⟨((Kept.refl L2.F w2).drewN 1).trans k3.k, k3.o⟩
    obtain ⟨b3, b4⟩ := b1.mv hm2
    have e1 : w3.cell? ⟨g0, 0, none⟩ = some (.int .i64 (a : Int)) := (World.cell?_of_block b4).trans e0
    have lg3 := b3.1
    have hj := (List.getElem?_eq_some_iff.1 hy).1
    have hz := opened_at hy false a
    have hwz := (k1.wire _ _ hz).blk
    rw [k2.wa _ hj, h4] at hwz
    have z0 := hwz.w0
    have lz := hwz.lt
    have HE := Lib.hid (show Accd w B L ((S.setW i (x.left l)).opened j false a) w3 from ⟨L3, k1, k2.p.trans h2, (show Mv w w1 L.F L.F from ⟨Kept.of_below HB.out.2.1, fun _ e => .inl e⟩).trans (h5.trans hm2)⟩)
    clear h hx hw hy h1 h2 h3 h4 h5 b1 k1 k2 k3 hm2 b3 b4 hj hz hwz
    go_wp2_with fail
    go_quiet (fail)
    obtain ⟨q, hq⟩ : ∃ q, q = nq := ⟨_, rfl⟩
    have HQ := Lib.hid (show Accd w B L ((S.setW i (x.left l)).opened j false a) (w3.drewN nq) by
      obtain ⟨L', k1, k2, k3⟩ := HE.out
      exact ⟨L', k1.drewN nq, k2, ⟨k3.k.drewN nq, k3.o⟩⟩)
    clear hq
    go_wp2_with fail
    go_ret3
    exact ⟨rfl, HQ.out⟩
  · exfalso
    rw [HN.out.1] at hlt
    have := HN.out.2.1
    omega
end
end Go.Proofs.YtjejpgognfadoaaGreatDoor
