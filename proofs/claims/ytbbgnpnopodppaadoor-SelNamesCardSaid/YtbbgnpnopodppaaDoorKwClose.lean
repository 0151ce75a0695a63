/-
  Close: an end, its descriptor, and what waits at a listener.
-/
import Derived.Test.YtbbgnpnopodppaaDoorKwUse
namespace Go.Proofs.YtbbgnpnopodppaaDoor
open Go.RowKit Go.Shelf Go.Maps Go.ChangeMaps

/-- A connection that waits is closed; a descriptor is free; nothing waits. -/
def Ws.shutW (S : Ws) (j : Nat) : Ws := match S.ws[j]? with | some y => S.setW j (y.close false) | none => S
def Ws.unfd (S : Ws) (n : Nat) : Ws := { S with fds := fun f => if f = n then none else S.fds f }
def Ws.unwait (S : Ws) (i : Nat) : Ws := match S.ws[i]? with | some y => S.setW i (y.left []) | none => S
def Ws.closed (S : Ws) (n i : Nat) (k : Bool) (x : Wi) : Ws := (x.wait.foldl Ws.shutW ((S.setW i (x.close k)).unfd n)).unwait i
theorem Ws.shutW_of {S : Ws} {j : Nat} {y : Wi} (h : S.ws[j]? = some y) : S.shutW j = S.setW j (y.close false) := by unfold Ws.shutW; rw [h]
theorem Ws.unwait_of {S : Ws} {j : Nat} {y : Wi} (h : S.ws[j]? = some y) : S.unwait j = S.setW j (y.left []) := by unfold Ws.unwait; rw [h]
theorem Ws.setW_len (S : Ws) (i : Nat) (x : Wi) : (S.setW i x).ws.length = S.ws.length := by unfold Ws.setW; simp
theorem Ws.shutW_len (S : Ws) (j : Nat) : (S.shutW j).ws.length = S.ws.length := by unfold Ws.shutW; split <;> simp [Ws.setW_len]
theorem Ws.setW_at {S : Ws} {i : Nat} (h : i < S.ws.length) (x : Wi) : (S.setW i x).ws[i]? = some x := by unfold Ws.setW; simp [h]
theorem Ws.setW_ne {S : Ws} {i j : Nat} (h : i ≠ j) (x : Wi) : (S.setW i x).ws[j]? = S.ws[j]? := by unfold Ws.setW; simp [List.getElem?_set, h]
theorem Ws.shutW_at {S : Ws} {i : Nat} {x : Wi} (h : S.ws[i]? = some x) (j : Nat) : ∃ y, (S.shutW j).ws[i]? = some y ∧ y.wait = x.wait := by
  unfold Ws.shutW
  split
  · rename_i z hz
    by_cases e : j = i
    · subst e
      rw [h] at hz; cases hz
      exact ⟨_, Ws.setW_at (List.getElem?_eq_some_iff.1 h).1 _, Wi.close_wait x false⟩
    · exact ⟨x, (Ws.setW_ne e _).trans h, rfl⟩
  · exact ⟨x, h, rfl⟩
theorem Ws.shutL_at : ∀ (l : List Nat) {S : Ws} {i : Nat} {x : Wi} (_ : S.ws[i]? = some x), ∃ y, (l.foldl Ws.shutW S).ws[i]? = some y ∧ y.wait = x.wait
  | [], _, _, x, h => ⟨x, h, rfl⟩
  | j :: l, _, _, _, h => by
    obtain ⟨y, h1, h2⟩ := Ws.shutW_at h j
    obtain ⟨z, h3, h4⟩ := Ws.shutL_at l h1
    exact ⟨z, h3, h4.trans h2⟩
theorem Ws.le_shutW {S : Ws} {N : Nat} (h : S.le N) (j : Nat) : (S.shutW j).le (N + 2) := by
  unfold Ws.shutW
  split
  · rename_i y hy
    exact Ws.le_setW (h.mono (by omega)) (Wi.le_close (h j y hy) false)
  · exact h.mono (by omega)
theorem Ws.le_shutL : ∀ (l : List Nat) {S : Ws} {N : Nat} (_ : S.le N), (l.foldl Ws.shutW S).le (N + 2 * l.length)
  | [], _, _, h => h
  | j :: l, _, _, h => (Ws.le_shutL l (Ws.le_shutW h j)).mono (by rw [List.length_cons]; omega)
theorem Ws.le_unwait {S : Ws} {N : Nat} (h : S.le N) (i : Nat) : (S.unwait i).le N := by
  unfold Ws.unwait
  split
  · rename_i y hy
    exact Ws.le_setW h (show (y.left []).le N from h i y hy)
  · exact h
theorem Ws.le_closed {S : Ws} {N : Nat} (h : S.le N) {i : Nat} {x : Wi} (hx : S.ws[i]? = some x) (n : Nat) (k : Bool) : (S.closed n i k x).le (N + 2 + 2 * x.wait.length) :=
  Ws.le_unwait (Ws.le_shutL x.wait (show ((S.setW i (x.close k)).unfd n).le (N + 2) from Ws.le_setW (h.mono (by omega)) (Wi.le_close (h i x hx) k))) i

section
variable {w w' : World} {B : Nat} {L : Lay} {S : Ws}
/-- A world that a call has turned to another state, so far. -/
def To (w : World) (B : Nat) (L : Lay) (n : Nat) (S' : Ws) (w' : World) : Prop := ∃ L', Wd w' B L' S' ∧ L.ext L' n ∧ Mv w w' L.F L'.F
theorem unfd_any (h : Wd w B L S) (n : Nat) (hn : n < 96) : Wd (w.setCell ⟨L.kb, 2 + n, none⟩ (.pointer none)) B L (S.unfd n) ∧ Mv w (w.setCell ⟨L.kb, 2 + n, none⟩ (.pointer none)) L.F L.F := by
  have q := (Kept.refl (fun j => j = L.kb) w).setCell (p := ⟨L.kb, 2 + n, none⟩) rfl (.pointer none)
  have hset := h.kept.setFd hn Option.none
  have hpv : updA (fun f => L.at_ (S.fds f)) n Option.none = fun f => L.at_ (if f = n then Option.none else S.fds f) := by
    funext f
    unfold updA
    by_cases e : f = n
    · rw [if_pos e, if_pos e]; rfl
    · rw [if_neg e, if_neg e]
  rw [hpv] at hset
  exact ⟨h.turnK (now := S.now) (fds := fun f => if f = n then Option.none else S.fds f) (nt := S.nt) q hset (fun f i k e => by
    split at e
    · cases e
    · exact h.fdok f i k e) h.ntok, h.mvK q⟩
set_option maxRecDepth 100000 in
set_option maxHeartbeats 4000000 in
theorem wClose_yes (h : Wd w B L S) {n i : Nat} {k : Bool} {x : Wi} (hn : n ≤ 95) (hf : S.fds n = some (i, k)) (hx : S.ws[i]? = some x) (hwl : x.wait.length ≤ 64) (hN : S.le 890000000) :
    Calls Tryd.prog 5 #[.pointer (some ⟨L.p, 0, none⟩), .int .i64 (n : Int)] w fun e w' => e = .returned (.int .i64 0) ∧ Conn w B L S (S.closed n i k x) w' := by
  have hi := (List.getElem?_eq_some_iff.1 hx).1
  have HF := Lib.hid (find_yes h (n := (n : Int)) (by rw [Ws.fd_of hn]; exact hf))
  have hwr := h.wire i x hx
  have HCl := Lib.hid (endclose_any hwr.blk k ((hN i x hx).mono (by omega)))
  have H := Lib.hid (And.intro h (And.intro hx (And.intro hi (And.intro hN hwl))))
  have b0 : (0 : Int) ≤ (n : Int) := by omega
  have b1 : (n : Int) < 96 := by omega
  obtain ⟨g, hg⟩ : ∃ g, g = L.wa i := ⟨_, rfl⟩
  have HG := Lib.hid hg
  rw [← hg] at HF HCl
  clear h hwr hf hx hN hi hg
  go_enter Tryd.func5, Tryd.ntmps5
  go_wp2_with fail
  refine HF.out.mono ?_
  rintro e w1 ⟨rfl, rfl⟩
  go_wp2_with fail
  refine HCl.out.mono ?_
  rintro e w1 ⟨rfl, h5, h6⟩
  obtain ⟨h, hx, hi, hN, _⟩ := H.out
  rw [HG.out] at h5 h6
  obtain ⟨L1, j1, j2, j3⟩ := h.turnW hx h5 h6 (Wi.sameR_close x k) (Wi.close_wait x k)
  have c0 := j1.top.cell 0
  rw [j2.p, j2.kb] at c0
  simp at c0
  have lp := j1.top.lt
  rw [j2.p] at lp
  have lk := j1.kept.lt
  rw [j2.kb] at lk
  have cf := j1.kept.fd (i := n) (by omega)
  have ff := j1.kept.frozen (2 + n)
  rw [j2.kb] at cf ff
  obtain ⟨m1, m2⟩ := unfd_any j1 n (by omega)
  rw [j2.kb] at m1 m2
  obtain ⟨u0, hu0⟩ : ∃ u0, u0 = L1.at_ ((S.setW i (x.close k)).fds n) := ⟨_, rfl⟩
  rw [← hu0] at cf
  have hx1 : ((S.setW i (x.close k)).unfd n).ws[i]? = some (x.close k) := Ws.setW_at hi _
  have hb := (m1.wire i _ hx1).blk
  have p0 := hb.c0 k
  rw [j2.wa i hi] at p0
  have w17 := hb.w17
  obtain ⟨A, c, e1, e2, e3, e4, e5⟩ := m1.wait i _ hx1
  rw [e1, Wi.close_wait, j2.wa i hi] at w17
  have lg := hb.lt
  rw [j2.wa i hi] at lg
  rw [← HG.out] at p0 w17 lg
  obtain ⟨ln, hln⟩ : ∃ ln, ln = x.wait.length := ⟨_, rfl⟩
  rw [← hln] at w17 hwl
  have HL := Lib.hid hln
  have H1 := Lib.hid (show To w B L S.ws.length ((S.setW i (x.close k)).unfd n) (w1.setCell ⟨L.kb, 2 + n, none⟩ (.pointer none)) ∧ L1.wt i = .slice A ln c ∧ L1.wt i = L.wt i from ⟨⟨L1, m1, j2, j3.trans m2⟩, by rw [e1, Wi.close_wait, hln], j2.wt i hi⟩)
  clear h hx hi hN h5 h6 j1 j2 j3 m1 m2 hx1 hb e1 e2 e3 e4 e5 hu0 hln
  go_wp2_with fail
  obtain ⟨w2, hw2⟩ : ∃ w2, w2 = w1.setCell ⟨L.kb, 2 + n, none⟩ (.pointer none) := ⟨_, rfl⟩
  rw [← hw2] at p0 w17 lg H1 ⊢
  clear hw2 p0 w17 c0 cf ff
  go_loopw [36] (fun v wr => ∃ a : Nat, v = .int .i64 (a : Int) ∧ a ≤ ln ∧ To w B L S.ws.length ((x.wait.take a).foldl Ws.shutW ((S.setW i (x.close k)).unfd n)) wr) (fun v _ => ln - (intOf v).toNat)
  case atStart => exact ⟨0, rfl, Nat.zero_le _, H1.out.1⟩
  case round =>
    obtain ⟨a, rfl, ha, L2, k1, k2, k3⟩ := hrel
    obtain ⟨h, hx, hi, hN, _⟩ := H.out
    have hx1 : ((S.setW i (x.close k)).unfd n).ws[i]? = some (x.close k) := Ws.setW_at hi _
    obtain ⟨y, hy, hyw⟩ := Ws.shutL_at (x.wait.take a) hx1
    rw [Wi.close_wait] at hyw
    have hb := (k1.wire i y hy).blk
    rw [k2.wa i hi, ← HG.out] at hb
    obtain ⟨A2, c2, e1, e2, e3, e4, e5⟩ := k1.wait i y hy
    have eA : Value.slice A2 y.wait.length c2 = .slice A ln c := e1.symm.trans ((k2.wt i hi).trans (H1.out.2.2.symm.trans H1.out.2.1))
    injection eA with eA1 eA2 eA3
    subst eA1
    have lg2 := hb.lt
    have d0 := hb.c0 k
    have d17 := hb.w17
    have f17 := hb.frozen 17
    obtain ⟨v17, hv17⟩ : ∃ v17, v17 = L2.wt i := ⟨_, rfl⟩
    rw [← hv17] at d17
    by_cases hal : a < ln
    · have hal2 : a < x.wait.length := by rw [← HL.out]; exact hal
      obtain ⟨j, hj⟩ : ∃ j, x.wait[a]? = some j := ⟨_, List.getElem?_eq_getElem hal2⟩
      have hjs : j < ((x.wait.take a).foldl Ws.shutW ((S.setW i (x.close k)).unfd n)).ws.length := by
        have := k1.wtok i y hy j (by rw [hyw]; exact List.mem_of_getElem? hj)
        exact this
      obtain ⟨z, hz⟩ : ∃ z, ((x.wait.take a).foldl Ws.shutW ((S.setW i (x.close k)).unfd n)).ws[j]? = some z := ⟨_, List.getElem?_eq_getElem hjs⟩
      obtain ⟨q, o, rfl, hq, hl⟩ := e4 (by rw [List.length_map, hyw]; omega)
      have hcell0 := hl a (L2.wa j) (by rw [List.getElem?_map, hyw, hj]; rfl) 0 (by decide)
      rw [show RP.n = 1 from rfl, Nat.mul_one, Nat.add_zero] at hcell0
      have hcell : wr.cell? ⟨q, o + a, none⟩ = some (.pointer (some ⟨L2.wa j, 0, none⟩)) := hcell0
      clear hcell0
      have hle := Ws.le_shutL (x.wait.take a) (show ((S.setW i (x.close k)).unfd n).le 890000002 from Ws.le_setW (hN.mono (by omega)) (Wi.le_close (hN i x hx) k))
      have hbz := (k1.wire j z hz).blk
      have lz := hbz.lt
      have HZ := Lib.hid (endclose_any hbz false ((hle j z hz).mono (by rw [List.length_take]; omega)))
      rw [off_f] at HZ
      have ba0 : (0 : Int) ≤ (a : Int) := by omega
      have ba1 : (a : Int) < (ln : Int) := by omega
      have hst : (x.wait.take (a + 1)).foldl Ws.shutW ((S.setW i (x.close k)).unfd n) = ((x.wait.take a).foldl Ws.shutW ((S.setW i (x.close k)).unfd n)).setW j (z.close false) := by
        rw [List.take_add_one, hj, List.foldl_append]
        show Ws.shutW _ j = _
        exact Ws.shutW_of hz
      have hlen2 : ((x.wait.take a).foldl Ws.shutW ((S.setW i (x.close k)).unfd n)).ws.length = S.ws.length := by
        have : ∀ (l : List Nat) (T : Ws), (l.foldl Ws.shutW T).ws.length = T.ws.length := fun l => by
          induction l with
          | nil => intro T; rfl
          | cons j l ih => intro T; rw [List.foldl_cons, ih, Ws.shutW_len]
        rw [this]
        exact Ws.setW_len S i _
      have HK := Lib.hid (And.intro k1 (And.intro k2 (And.intro k3 (And.intro hz (And.intro hst hlen2)))))
      clear h hx hi hN hx1 hy hyw k1 k2 k3 hb e1 e2 e3 e4 e5 eA2 eA3 d0 d17 hv17 hjs hz hl hle hbz hst hlen2 hj hal2 f17
      go_wp2_with fail
      refine HZ.out.mono ?_
      rintro e w3 ⟨rfl, h8, h9⟩
      have HE := Lib.hid (show To w B L S.ws.length ((x.wait.take (a + 1)).foldl Ws.shutW ((S.setW i (x.close k)).unfd n)) w3 from by
        obtain ⟨k1, k2, k3, hz, hst, hlen2⟩ := HK.out
        obtain ⟨L3, q1, q2, q3⟩ := k1.turnW hz h8 h9 (Wi.sameR_close z false) (Wi.close_wait z false)
        rw [hst]
        rw [hlen2] at q2
        exact ⟨L3, q1, k2.trans q2 (Nat.le_refl _), k3.trans q3⟩)
      clear h8 h9
      go_wp2_with fail
      go_roundw
      case rel => exact ⟨a + 1, by go_num, by omega, HE.out⟩
      case measure => simp [intOf] <;> omega
    · have hal2 : a = x.wait.length := by rw [← HL.out]; omega
      have ha2 : a = ln := by omega
      have hu := Ws.unwait_of hy
      have HE := Lib.hid (show Conn w B L S (S.closed n i k x) (wr.setCell ⟨g, 17, none⟩ (.slice none 0 0)) from by
        obtain ⟨L3, q1, q2, q3, q4, q5, q6⟩ := k1.setWait (y := y.left []) (v := .slice none 0 0) (A := none) (c := 0) (W' := wr.setCell ⟨g, 17, none⟩ (.slice none 0 0)) hy ((Kept.refl _ wr).setCell (p := ⟨g, 17, none⟩) (.inl (by rw [k2.wa i hi]; exact HG.out)) _) (by rw [k2.wa i hi, ← HG.out]; exact (hb.setV (.slice none 0 0)).waits []) (Wi.sameR.refl y) rfl (Nat.zero_le _) RowK.roomy_nil RowK.shows_nil (fun b e => by cases e) (fun j hj => by cases hj)
        have hfull : x.wait.take a = x.wait := by rw [hal2, List.take_length]
        rw [hfull] at q1 hu
        rw [← hu] at q1
        exact ⟨L3, q1, q2.trans k2.p, k3.trans q6⟩)
      subst ha2
      clear h hx hi hN hx1 hy hyw k1 k2 k3 hb e1 e2 e3 e4 e5 eA2 eA3 hv17 hu hal hal2
      go_wp2_with fail
      go_ret
      exact ⟨rfl, HE.out⟩
end
end Go.Proofs.YtbbgnpnopodppaaDoor
