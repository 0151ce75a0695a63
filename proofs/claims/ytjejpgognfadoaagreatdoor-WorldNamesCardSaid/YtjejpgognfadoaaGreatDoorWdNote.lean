/-
  What lets the notice be as the signals are.
-/
import Derived.Test.YtjejpgognfadoaaGreatDoorWdConn
import Derived.Test.YtjejpgognfadoaaGreatDoorSgTake
import Derived.Defers
import Derived.LaidEqlPtr
namespace Go.Proofs.YtjejpgognfadoaaGreatDoor
open Go.RowKit Go.Shelf Go.Maps Go.ChangeMaps

attribute [local go_sem] Oper.semAt_some

/-- What a world comes to behind a call that concerns signals. -/
def Ws.note (s : Ws) : Ws := match s.nt with
  | none => s
  | some (i, k) => match s.ws[i]? with
    | none => s
    | some x => if s.sg.sum = 0 then s.setW i (x.drain k (x.e k).bs.length) else if (x.e k).bs.length = 0 then s.setW i (x.fill k [1]) else s
theorem Ws.note_none {s : Ws} (h : s.nt = none) : s.note = s := by unfold Ws.note; rw [h]
theorem Ws.note_some {s : Ws} {i : Nat} {k : Bool} {x : Wi} (h : s.nt = some (i, k)) (hx : s.ws[i]? = some x) : s.note = if s.sg.sum = 0 then s.setW i (x.drain k (x.e k).bs.length) else if (x.e k).bs.length = 0 then s.setW i (x.fill k [1]) else s := by
  unfold Ws.note; rw [h]; simp only [hx]
/-- The notice's end can read. -/
def Ws.ntc (s : Ws) : Prop := ∀ i k x, s.nt = some (i, k) → s.ws[i]? = some x → (x.e k).can = true
def Noted (w : World) (B : Nat) (L : Lay) (S S' : Ws) (w' : World) : Prop := ∃ L', Wd w' B L' S' ∧ L.ext L' S.ws.length ∧ Mv w w' L.F L'.F

theorem infoEnd : (Tryz.prog.info? 70).map (fun i => i.size) = some 7 := by kernel_rfl
theorem neq_end (w : World) (a : Addr) : (binOp .neq 59 (.pointer (some a)) (.pointer (some a))).run Tryz.prog w = .ok (.bool false) w := by
  have hi := infoEnd
  cases hte : Tryz.prog.info? 70 with
  | none => rw [hte] at hi; simp at hi
  | some j =>
    have h : ∀ d : Nat, (Op.equalIn (d + 1) 59 (.pointer (some a)) (.pointer (some a))).run Tryz.prog w = .ok true w := fun d => by
      simp [Op.equalIn, run_underlying Tryz.underlying59, sizeOf, typeInfo, hte, run_sameAddr_same]
    simp only [binOp]
    simp [Op.equal, Op.maxDepth, h 9999]
section
variable {w w' : World} {B : Nat} {L : Lay} {S : Ws}
theorem Mv.of_below {F : Nat → Prop} (hb : Below w.heap.size w w') : Mv w w' F F := ⟨Kept.of_below hb, fun _ e => .inl e⟩
set_option maxHeartbeats 4000000 in
theorem notify_d (h : Wd w B L S) (hN : S.le 900000000) (hc : S.ntc) (hs : S.sg.le 2147483647) (u : FrameMode) :
    CallsD Tryz.prog 54 #[.pointer (some ⟨L.kb, 0, none⟩)] u w fun e u' w' => u' = u ∧ (e = .returned (.tuple #[]) ∧ Noted w B L S S.note w') := by
  have c99 := h.kept.c99
  have c98 := h.kept.c98
  have lk := h.kept.lt
  cases hn : S.nt with
  | none =>
    have e0 := Ws.note_none hn
    rw [hn] at c99
    have HE := Lib.hid (show Noted w B L S S.note w from ⟨L, e0.symm ▸ h, Lay.ext.refl _ _, ⟨Kept.refl _ w, fun _ e => .inl e⟩⟩)
    simp [Lay.at_] at c99
    clear h hN hc hs hn e0
    go_enter_d Tryz.func54, Tryz.ntmps54
    go_wp2_with fail
    go_end0
    exact ⟨rfl, HE.out⟩
  | some q =>
    obtain ⟨i, k⟩ := q
    have hi := h.ntok i k hn
    obtain ⟨x, hx⟩ : ∃ x, S.ws[i]? = some x := ⟨_, List.getElem?_eq_getElem hi⟩
    have hcan := hc i k x hn hx
    have e0 := Ws.note_some hn hx
    have HP := Lib.hid (pending_any h.sig hs)
    have H := Lib.hid (And.intro h (And.intro hx (And.intro hcan (hN i x hx))))
    rw [hn] at c99
    simp [Lay.at_] at c99
    obtain ⟨sm, hsm⟩ : ∃ sm, sm = S.sg.sum := ⟨_, rfl⟩
    rw [← hsm] at HP e0
    rw [e0]
    have K := Lib.hid (show ∀ w1, Below w.heap.size w w1 → ∃ out, Wd w1 B L S ∧ Wr w1 B (L.wa i) i (L.rr i) (L.G i) (L.wt i) x ∧ Rg w1 B (L.rr i k) (L.G i k) x.cap (x.e k).bs (x.e k).inn out from fun w1 hb => by
      have h1 := H.out.1.below hb
      have hwr := h1.wire i x H.out.2.1
      obtain ⟨out, hrg⟩ := hwr.ring k H.out.2.2.1
      exact ⟨out, h1, hwr, hrg⟩)
    have HMV := Lib.hid (show ∀ w1, Below w.heap.size w w1 → ∀ y w2, Turned w1 B L S i y w2 → Noted w B L S (S.setW i y) w2 from fun w1 hb y w2 ht => by
      obtain ⟨L', k1, k2, k3⟩ := ht
      exact ⟨L', k1, k2, (Mv.of_below hb).trans k3⟩)
    clear h hN hc hs hn e0 hx hcan hi hsm
    by_cases h0 : sm = 0
    · rw [if_pos h0]
      subst h0
      go_enter_d Tryz.func54, Tryz.ntmps54
      go_wp2_with fail
      refine HP.out.mono ?_
      rintro e w1 ⟨rfl, hb⟩
      obtain ⟨out, h1, hwr, hrg⟩ := K.out w1 hb
      have c4 := hwr.blk.c4 k
      rw [H.out.2.2.1, rp_yes] at c4
      have lg := hwr.blk.lt
      have HLN := Lib.hid (len_any hrg)
      have hf := hrg.facts
      have HDR := Lib.hid (fun (q : Nat) => drain_any (hwr.drewN_ q) k H.out.2.2.1 ((x.e k).bs.length : Int) (by omega) H.out.2.2.2)
      have HB := Lib.hid (And.intro hb h1)
      clear h1 hwr hrg hf hb
      go_wp2_with fail
      refine HLN.out.mono ?_
      rintro e w2 ⟨rfl, m2, rfl⟩
      go_wp2_with fail
      refine (HDR.out _).mono ?_
      rintro e w2 ⟨u1, F', rfl, hu, hw2, hm2, hm3⟩
      have HE := Lib.hid (HMV.out w1 HB.out.1 _ _ (Turned.of_wire HB.out.2 H.out.2.1 _ hw2 hm2 (Wi.drain_wait _ _ _)))
      rw [Int.toNat_natCast] at HE
      clear hu hw2 hm2 hm3
      go_wp2_with fail
      go_end0
      exact ⟨rfl, HE.out⟩
    · rw [if_neg h0]
      by_cases h2 : (x.e k).bs.length = 0
      · rw [if_pos h2]
        have b0 : ¬ (sm : Int) = 0 := by omega
        have b1 : ((sm : Int) == 0) = false := by simpa using b0
        go_enter_d Tryz.func54, Tryz.ntmps54
        go_wp2_with fail
        refine HP.out.mono ?_
        rintro e w1 ⟨rfl, hb⟩
        obtain ⟨out, h1, hwr, hrg⟩ := K.out w1 hb
        have c4 := hwr.blk.c4 k
        rw [H.out.2.2.1, rp_yes] at c4
        have lg := hwr.blk.lt
        have HLN := Lib.hid (len_any hrg)
        rw [h2] at HLN
        have HFL := Lib.hid (fun (q : Nat) => fill_any (w := (w1.drewN q).alloc (.cells (encB [1]).toArray 5 (0, 0))) ((hwr.drewN_ q).kept ((Kept.refl (fun _ => False) (w1.drewN q)).alloc _) (fun _ _ e => e)) k H.out.2.2.1 (.slice (some ⟨w1.heap.size, 0, none⟩) 1 1) [1]
          (src_const (w1.drewN q) (fun _ hk => (hwr.lt hk).1) [1] (0, 0) (by decide)) H.out.2.2.2)
        have HB := Lib.hid (And.intro hb h1)
        clear h1 hwr hrg hb
        go_wp2_with fail
        refine HLN.out.mono ?_
        rintro e w2 ⟨rfl, m2, rfl⟩
        go_wp2_with fail
        refine (HFL.out m2).mono ?_
        rintro e w2 ⟨rfl, F', hw2, hm2⟩
        have HE := Lib.hid (HMV.out w1 HB.out.1 _ _ (Turned.of_wire HB.out.2 H.out.2.1 m2 hw2 ((show Mv (w1.drewN m2) ((w1.drewN m2).alloc (.cells (encB [1]).toArray 5 (0, 0))) (FW (L.wa i) (L.G i)) (FW (L.wa i) (L.G i)) from ⟨(Kept.refl _ _).alloc _, fun _ e => .inl e⟩).trans hm2) (Wi.fill_wait _ _ _)))
        clear hw2 hm2
        go_wp2_with fail
        go_end0
        exact ⟨rfl, HE.out⟩
      · rw [if_neg h2]
        have b0 : ¬ (sm : Int) = 0 := by omega
        have b1 : ((sm : Int) == 0) = false := by simpa using b0
        have b2 : ¬ ((x.e k).bs.length : Int) = 0 := by omega
        have b3 : (((x.e k).bs.length : Int) == 0) = false := by simpa using b2
        obtain ⟨ln, hln⟩ : ∃ ln, ln = (x.e k).bs.length := ⟨_, rfl⟩
        rw [← hln] at b2 b3
        have HL := Lib.hid hln
        clear h2 hln
        go_enter_d Tryz.func54, Tryz.ntmps54
        go_wp2_with fail
        refine HP.out.mono ?_
        rintro e w1 ⟨rfl, hb⟩
        obtain ⟨out, h1, hwr, hrg⟩ := K.out w1 hb
        have c4 := hwr.blk.c4 k
        rw [H.out.2.2.1, rp_yes] at c4
        have lg := hwr.blk.lt
        have HLN := Lib.hid (len_any hrg)
        rw [← HL.out] at HLN
        have HE := Lib.hid (fun q => show Noted w B L S S (w1.drewN q) from ⟨L, h1.drewN q, Lay.ext.refl _ _, (Mv.of_below hb).trans ⟨(Kept.refl _ w1).drewN q, fun _ e => .inl e⟩⟩)
        clear h1 hwr hrg hb
        go_wp2_with fail
        refine HLN.out.mono ?_
        rintro e w2 ⟨rfl, m2, rfl⟩
        go_wp2_with fail
        go_end0
        exact ⟨rfl, HE.out _⟩

/-- The signals' block alone turned. -/
theorem Wd.turnS (h : Wd w B L S) {t : T} (q : Kept (fun b => b = L.sb) w w') (ht : Tb w' L.sb t) : Wd w' B L { S with sg := t } := by
  have hs := q.size
  have e : ∀ b t, L.own b = some t → t ≠ .sig → w'.heap[b]? = w.heap[b]? := fun b t hb ht => q.block b (h.lt b t hb).2 (fun e => by subst e; rw [h.osig] at hb; cases hb; exact ht rfl)
  exact ⟨h.top.same (e _ _ h.otop (fun e => by cases e)), h.kept.same (e _ _ h.okept (fun e => by cases e)), ht, RowK.own_same h.row (fun k hk => e _ _ (h.orow k hk) (fun e => by cases e)),
    fun i x hx => (h.wire i x hx).same (fun b hb => by
      rcases hb with rfl | ⟨k, hk⟩
      · exact e _ _ (h.owire i (List.getElem?_eq_some_iff.1 hx).1) (fun e => by cases e)
      · exact e b _ hk (fun e => by cases e)) (Nat.le_trans h.hs hs),
    fun i x hx => (h.wait i x hx).same (fun b hb => e b _ hb (fun e => by cases e)) hs,
    h.otop, h.okept, h.osig, h.orow, h.owire, fun b t hb => ⟨(h.lt b t hb).1, Nat.lt_of_lt_of_le (h.lt b t hb).2 hs⟩, Nat.le_trans h.hs hs, h.fdok, h.ntok, h.wtok, h.oi⟩
theorem Wd.mvS (h : Wd w B L S) (q : Kept (fun b => b = L.sb) w w') : Mv w w' L.F L.F := ⟨q.mono fun b _ e => e ▸ ⟨_, h.osig⟩, fun _ e => .inl e⟩
def Ws.sig (s : Ws) (t : T) : Ws := { s with sg := t }

set_option maxHeartbeats 4000000 in
theorem wHandle_any (h : Wd w B L S) (n : Int) (on : Bool) (hN : S.le 900000000) (hc : S.ntc) (hs : S.sg.le 900000000) :
    Calls Tryz.prog 18 #[.pointer (some ⟨L.p, 0, none⟩), .int .i64 n, .bool on] w fun e w' => e = .returned (.int .i64 (code n)) ∧ Noted w B L S (S.sig (S.sg.handle n on)).note w' := by
  have HM := Lib.hid (wmade_yes h.top)
  have c0 := h.top.cell 0
  simp at c0
  have lp := h.top.lt
  have lk := h.kept.lt
  have c98 := h.kept.c98
  have HH := Lib.hid (handle_any h.sig n on)
  have H := Lib.hid h
  have HN := Lib.hid (And.intro hN (And.intro hc (T.le_handle hs n on)))
  clear h hN hc hs
  go_enter_defers Tryz.func18, Tryz.ntmps18
  go_wp2_with fail
  refine HM.out.mono ?_
  rintro e w1 ⟨rfl, rfl⟩
  go_wp2_with fail
  refine HH.out.mono ?_
  rintro e w1 ⟨rfl, h1, h2⟩
  have h3 := H.out.turnS h2 h1
  have HE := Lib.hid (And.intro h3 (H.out.mvS h2))
  clear h1 h2 h3
  go_wp2_with fail
  refine leaves_cons (f := 54) (args := #[.pointer (some ⟨L.kb, 0, none⟩)]) (by simp) (by simp [go_sem]) ?_
  refine (notify_d HE.out.1 HN.out.1 HN.out.2.1 (HN.out.2.2.mono (by omega)) .returning).mono ?_
  rintro e u' w2 ⟨rfl, rfl, L', k1, k2, k3⟩
  exact ⟨_, results_tmp rfl _ _ _, rfl, L', k1, k2, HE.out.2.trans k3⟩
set_option maxHeartbeats 4000000 in
theorem wRaise_any (h : Wd w B L S) (n : Int) (hN : S.le 900000000) (hc : S.ntc) (hs : S.sg.le 900000000) :
    Calls Tryz.prog 19 #[.pointer (some ⟨L.p, 0, none⟩), .int .i64 n] w fun e w' => e = .returned (.int .i64 (code n)) ∧ Noted w B L S (S.sig (S.sg.rise n)).note w' := by
  have HM := Lib.hid (wmade_yes h.top)
  have c0 := h.top.cell 0
  simp at c0
  have lp := h.top.lt
  have lk := h.kept.lt
  have c98 := h.kept.c98
  have HH := Lib.hid (raise_any h.sig n (hs.mono (by omega)))
  have H := Lib.hid h
  have HN := Lib.hid (And.intro hN (And.intro hc (T.le_rise hs n)))
  clear h hN hc hs
  go_enter_defers Tryz.func19, Tryz.ntmps19
  go_wp2_with fail
  refine HM.out.mono ?_
  rintro e w1 ⟨rfl, rfl⟩
  go_wp2_with fail
  refine HH.out.mono ?_
  rintro e w1 ⟨rfl, h1, h2⟩
  have h3 := H.out.turnS h2 h1
  have HE := Lib.hid (And.intro h3 (H.out.mvS h2))
  clear h1 h2 h3
  go_wp2_with fail
  refine leaves_cons (f := 54) (args := #[.pointer (some ⟨L.kb, 0, none⟩)]) (by simp) (by simp [go_sem]) ?_
  refine (notify_d HE.out.1 HN.out.1 HN.out.2.1 (HN.out.2.2.mono (by omega)) .returning).mono ?_
  rintro e u' w2 ⟨rfl, rfl, L', k1, k2, k3⟩
  exact ⟨_, results_tmp rfl _ _ _, rfl, L', k1, k2, HE.out.2.trans k3⟩
theorem keptS (h : Wd w B L S) {u : Value} {xs : List (Nat × Nat)} {w1 w2 : World} (hs : w.heap.size ≤ w1.heap.size) (hr : RC.own w1 w.heap.size u xs) {F' : Nat → Prop} (m : Mv w1 w2 L.F F') : RC.own w2 w.heap.size u xs ∧ ∀ b, u.ownBlock = some b → ¬ F' b :=
  ⟨RowK.own_same hr fun b hb => m.k.block b (RowK.own_lt hr hb).1 (fun e => by have := (h.ltF e).1; have := (RowK.own_lt hr hb).2; omega), fun b hb e => by
    have h1 := RowK.own_lt hr hb
    rcases m.o b e with h2 | h2
    · have := (h.ltF h2).1; omega
    · omega⟩
set_option maxHeartbeats 4000000 in
theorem wSignals_any (h : Wd w B L S) (hN : S.le 900000000) (hc : S.ntc) :
    Calls Tryz.prog 20 #[.pointer (some ⟨L.p, 0, none⟩)] w fun e w' => ∃ v, e = .returned v ∧ RC.own w' w.heap.size v (S.sg.pend 32) ∧ ∃ L', Wd w' B L' (S.sig S.sg.idle).note ∧ L.ext L' S.ws.length ∧ Mv w w' L.F L'.F ∧ ∀ b, v.ownBlock = some b → ¬ L'.F b := by
  have HM := Lib.hid (wmade_yes h.top)
  have c0 := h.top.cell 0
  simp at c0
  have lp := h.top.lt
  have lk := h.kept.lt
  have c98 := h.kept.c98
  have HH := Lib.hid (sg_take_any h.sig)
  have H := Lib.hid h
  have HN := Lib.hid (And.intro hN (And.intro hc (T.le_idle S.sg 900000000)))
  clear h hN hc
  go_enter_defers Tryz.func20, Tryz.ntmps20
  go_wp2_with fail
  refine HM.out.mono ?_
  rintro e w1 ⟨rfl, rfl⟩
  go_wp2_with fail
  refine HH.out.mono ?_
  rintro e w1 ⟨v, rfl, hr, h1, h2⟩
  have h3 := H.out.turnS h2 h1
  have HE := Lib.hid (And.intro h3 (And.intro (H.out.mvS h2) (And.intro hr h2.size)))
  obtain ⟨A1, c1, e1, _⟩ := RowK.own_shows hr
  subst e1
  clear h1 h2 h3 hr
  go_wp2_with fail
  refine leaves_cons (f := 54) (args := #[.pointer (some ⟨L.kb, 0, none⟩)]) (by simp) (by simp [go_sem]) ?_
  refine (notify_d HE.out.1 HN.out.1 HN.out.2.1 (HN.out.2.2.mono (by omega)) .returning).mono ?_
  rintro e u' w2 ⟨rfl, rfl, L', k1, k2, k3⟩
  obtain ⟨r1, r2⟩ := keptS H.out HE.out.2.2.2 HE.out.2.2.1 k3
  refine ⟨_, results_tmp rfl _ _ _, .slice A1 _ c1, rfl, r1, L', k1, k2, HE.out.2.1.trans k3, r2⟩
set_option maxRecDepth 100000 in
set_option maxHeartbeats 4000000 in
theorem wNotice_ok (h : Wd w B L S) {a b : Int} {i : Nat} {k : Bool} {x : Wi} (ha : S.fd a = some (i, k)) (hb : S.fd b = some (i, !k)) (hx : S.ws[i]? = some x) (hcan : ∀ j, (x.e j).can = true) (hN : S.le 900000000) (hs : S.sg.le 900000000) :
    Calls Tryz.prog 17 #[.pointer (some ⟨L.p, 0, none⟩), .int .i64 a, .int .i64 b] w fun e w' => e = .returned (.int .i64 0) ∧ Noted w B L S ({ S with nt := some (i, k) } : Ws).note w' := by
  have HM := Lib.hid (wmade_yes h.top)
  have c0 := h.top.cell 0
  simp at c0
  have lp := h.top.lt
  have lk := h.kept.lt
  have HF1 := Lib.hid (find_yes h ha)
  have HF2 := Lib.hid (find_yes h hb)
  have hwb := (h.wire i x hx).blk
  have hi := (List.getElem?_eq_some_iff.1 hx).1
  have hq := neq_end
  have HO := Lib.hid (other_any hwb k)
  have HR := Lib.hid (fun q => canRead_any (hwb.drewN q) k)
  have HW := Lib.hid (fun q => canWrite_any (hwb.drewN q) k)
  rw [hcan] at HR HW
  have c99 := h.kept.c99
  have f99 := h.kept.frozen 99
  have hset := fun q => (h.drewN q).kept.set99 (.pointer (some ⟨L.wa i, off k, none⟩))
  have HT := Lib.hid (fun q => show Wd ((w.drewN q).setCell ⟨L.kb, 99, none⟩ (.pointer (some ⟨L.wa i, off k, none⟩))) B L ({ S with nt := some (i, k) } : Ws) ∧ Mv w ((w.drewN q).setCell ⟨L.kb, 99, none⟩ (.pointer (some ⟨L.wa i, off k, none⟩))) L.F L.F from by
    have q1 := (Kept.refl (fun j => j = L.kb) (w.drewN q)).setCell (p := ⟨L.kb, 99, none⟩) rfl (.pointer (some ⟨L.wa i, off k, none⟩))
    refine ⟨(h.drewN q).turnK (now := S.now) (fds := S.fds) (nt := some (i, k)) q1 (hset q) h.fdok (fun j kk e => by cases e; exact hi), ?_⟩
    exact (show Mv w (w.drewN q) L.F L.F from ⟨(Kept.refl _ w).drewN q, fun _ e => .inl e⟩).trans ((h.drewN q).mvK q1))
  have HN := Lib.hid (And.intro hN (And.intro (show ({ S with nt := some (i, k) } : Ws).ntc from fun j kk y e hy => by cases e; rw [show S.ws[i]? = some x from hx] at hy; cases hy; exact hcan _) hs))
  clear h hx hwb hN hs hset ha hb hcan hi
  go_enter_defers Tryz.func17, Tryz.ntmps17
  go_wp2_with fail
  refine HM.out.mono ?_
  rintro e w1 ⟨rfl, rfl⟩
  go_wp2_with fail
  refine HF1.out.mono ?_
  rintro e w1 ⟨rfl, rfl⟩
  go_wp2_with fail
  refine HF2.out.mono ?_
  rintro e w1 ⟨rfl, rfl⟩
  go_wp2_with fail
  refine HO.out.mono ?_
  rintro e w1 ⟨rfl, m1, rfl⟩
  go_wp2_with fail
  refine (HR.out m1).mono ?_
  rintro e w1 ⟨rfl, m2, rfl⟩
  rw [World.drewN_drewN]
  go_wp2_with fail
  refine (HW.out _).mono ?_
  rintro e w1 ⟨rfl, m3, rfl⟩
  rw [World.drewN_drewN]
  go_wp2_with fail
  obtain ⟨h1, h2⟩ := HT.out (m1 + m2 + m3)
  refine leaves_cons (f := 54) (args := #[.pointer (some ⟨L.kb, 0, none⟩)]) (by simp) (by simp [go_sem]) ?_
  refine (notify_d h1 HN.out.1 HN.out.2.1 (HN.out.2.2.mono (by omega)) .returning).mono ?_
  rintro e u' w2 ⟨rfl, rfl, L', k1, k2, k3⟩
  exact ⟨_, results_tmp rfl _ _ _, rfl, L', k1, k2, h2.trans k3⟩
end
end Go.Proofs.YtjejpgognfadoaaGreatDoor
