/-
  Make: a move in a world with one wire to outside.
-/
import Derived.Test.YtlephnfepofbbaaGreatDoorMtFail
import Derived.Test.YtlephnfepofbbaaGreatDoorMtBase
namespace Go.Proofs.YtlephnfepofbbaaGreatDoor
open Go.RowKit Go.Shelf Go.Maps Go.ChangeMaps

section
variable {w w' : World} {B : Nat} {L : Lay} {S : Ws}
theorem wPut_no (h : Wd w B L S) {n : Int} (ho : S.outer n = none) (vz : Value) (A : Option Addr) (k c : Nat) (hv : vz = .slice A k c) : Calls Tryz.prog 26 #[.pointer (some ⟨L.p, 0, none⟩), .int .i64 n, vz] w fun e w' => e = .returned (.tuple #[.int .i64 0, .int .i64 116]) ∧ w = w' := by
  have HO := Lib.hid (outer_no h ho)
  subst hv
  clear h ho
  go_enter Tryz.func26, Tryz.ntmps26
  go_wp2_with fail
  refine HO.out.mono ?_
  rintro e w1 ⟨rfl, rfl⟩
  go_wp2_with fail
  go_ret2
  exact ⟨rfl, rfl⟩
theorem wTake_no (h : Wd w B L S) {n : Int} (ho : S.outer n = none) (m : Int) : Calls Tryz.prog 27 #[.pointer (some ⟨L.p, 0, none⟩), .int .i64 n, .int .i64 m] w fun e w' => e = .returned (.tuple #[.slice none 0 0, .int .i64 116]) ∧ w = w' := by
  have HO := Lib.hid (outer_no h ho)
  clear h ho
  go_enter Tryz.func27, Tryz.ntmps27
  go_wp2_with fail
  refine HO.out.mono ?_
  rintro e w1 ⟨rfl, rfl⟩
  go_wp2_with fail
  go_ret2
  exact ⟨rfl, rfl⟩
theorem wPeerShut_no (h : Wd w B L S) {n : Int} (ho : S.outer n = none) : Calls Tryz.prog 28 #[.pointer (some ⟨L.p, 0, none⟩), .int .i64 n] w fun e w' => e = .returned (.int .i64 116) ∧ w = w' := by
  have HO := Lib.hid (outer_no h ho)
  clear h ho
  go_enter Tryz.func28, Tryz.ntmps28
  go_wp2_with fail
  refine HO.out.mono ?_
  rintro e w1 ⟨rfl, rfl⟩
  go_wp2_with fail
  go_ret
  exact ⟨rfl, rfl⟩
theorem wPeerClose_no (h : Wd w B L S) {n : Int} (ho : S.outer n = none) : Calls Tryz.prog 29 #[.pointer (some ⟨L.p, 0, none⟩), .int .i64 n] w fun e w' => e = .returned (.int .i64 116) ∧ w = w' := by
  have HO := Lib.hid (outer_no h ho)
  clear h ho
  go_enter Tryz.func29, Tryz.ntmps29
  go_wp2_with fail
  refine HO.out.mono ?_
  rintro e w1 ⟨rfl, rfl⟩
  go_wp2_with fail
  go_ret
  exact ⟨rfl, rfl⟩
theorem wReset_no (h : Wd w B L S) {n : Int} (ho : S.outer n = none) : Calls Tryz.prog 30 #[.pointer (some ⟨L.p, 0, none⟩), .int .i64 n] w fun e w' => e = .returned (.int .i64 116) ∧ w = w' := by
  have HO := Lib.hid (outer_no h ho)
  clear h ho
  go_enter Tryz.func30, Tryz.ntmps30
  go_wp2_with fail
  refine HO.out.mono ?_
  rintro e w1 ⟨rfl, rfl⟩
  go_wp2_with fail
  go_ret
  exact ⟨rfl, rfl⟩
set_option maxRecDepth 100000 in
set_option maxHeartbeats 4000000 in
/-- No listener has this number. -/
theorem wConnect_no (h : Wd w B L S) (n c : Int) (hno : ∀ x, 0 ≤ n → S.ws[n.toNat]? = some x → x.back = 0) :
    Calls Tryz.prog 31 #[.pointer (some ⟨L.p, 0, none⟩), .int .i64 n, .int .i64 c] w fun e w' => e = .returned (.tuple #[.int .i64 0, .int .i64 116]) ∧ ∃ q, w' = w.drewN q := by
  by_cases hn : 0 ≤ n ∧ n < (S.ws.length : Int)
  · obtain ⟨i, rfl⟩ : ∃ i : Nat, n = (i : Int) := ⟨n.toNat, by omega⟩
    have hi : i < S.ws.length := by omega
    have hx : S.ws[i]? = some S.ws[i] := List.getElem?_eq_getElem hi
    have hb := hno S.ws[i] (by omega) (by rw [Int.toNat_natCast]; exact hx)
    have HW := Lib.hid (wire_yes h hi)
    have hwb := (h.wire i _ hx).blk
    have w16 := hwb.w16
    rw [hb] at w16
    have c2 := hwb.c2 false
    rw [off_f] at c2
    have lg := hwb.lt
    clear h hx hwb hno hb hn
    go_enter Tryz.func31, Tryz.ntmps31
    go_wp2_with fail
    refine HW.out.mono ?_
    rintro e w1 ⟨rfl, rfl⟩
    go_wp2_with fail
    go_ret2
    exact ⟨rfl, 0, rfl⟩
  · have HW := Lib.hid (wire_no h (n := n) (by omega))
    clear h hno hn
    go_enter Tryz.func31, Tryz.ntmps31
    go_wp2_with fail
    refine HW.out.mono ?_
    rintro e w1 ⟨rfl, rfl⟩
    go_wp2_with fail
    go_ret2
    exact ⟨rfl, 0, rfl⟩
end
/-- Bytes that lie in a block beside. -/
theorem src_of {D : Nat → Prop} {W : World} {v : Value} {b : List UInt8} (h : SrcB D W v b) : Src W (fun k => ¬ D k) v (bytI b) := by
  obtain ⟨A, c, e, h1, h2, h3, h4⟩ := h
  have hl : (bytI b).length = b.length := by unfold bytI; simp
  refine ⟨A, c, by rw [hl]; exact e, by rw [hl]; exact h1, h2, fun h0 => ?_⟩
  obtain ⟨g, off, e2, hd, hg, hc⟩ := h4 (by omega)
  refine ⟨g, off, e2, hg, fun hn => hn hd, fun i z hz => ?_⟩
  refine hc i _ ?_
  unfold bytI at hz
  rw [List.getElem?_map] at hz
  unfold Lib.byteCells
  rw [List.getElem?_map]
  cases hb : b[i]? with
  | none => rw [hb] at hz; cases hz
  | some y => rw [hb] at hz; cases hz; rfl
section
variable {B : Nat} {W w w' : World} {p : Nat} {S : Ws} {N : Nat} {D : Nat → Prop}
theorem OdM.refl (h : Od B W p S N D w) : OdM B W p S N D w w := ⟨h, fun _ _ => rfl, Nat.le_refl _⟩
theorem OdM.more {M : Nat} (h : OdM B W p S N D w w') (hN : N ≤ M) : OdM B W p S M D w w' := ⟨h.1.more hN, h.2⟩
theorem OdM.drewN (h : Od B W p S N D w) (q : Nat) : OdM B W p S N D w (w.drewN q) := ⟨h.drewN q, fun _ _ => rfl, Nat.le_refl _⟩
theorem mk_none {m : Mo} (h : S.outer m.wire = none) : mkMo S m = S := by unfold mkMo; rw [h]
theorem mk_some {m : Mo} {x : Wi} (h : S.outer m.wire = some x) : mkMo S m = if m.op = 1 then S.setW m.wire.toNat (x.putO (bytI m.b)).2.2 else if m.op = 2 then S.setW m.wire.toNat (x.takeO m.n).2.2 else if m.op = 3 then S.setW m.wire.toNat (x.stop true) else if m.op = 4 then S.setW m.wire.toNat (x.close true) else if m.op = 5 then S.setW m.wire.toNat x.fail else S := by unfold mkMo; rw [h]
/-- Of one wire to outside the ends read. -/
theorem OneS.at_ (h : OneS S) {n : Int} {x : Wi} (ho : S.outer n = some x) : One x := by
  obtain ⟨y, hS, hy⟩ := h
  generalize S.now = t at hS
  subst hS
  obtain ⟨_, rfl, _⟩ := outer_one ho
  exact hy
theorem OneS.back (h : OneS S) (n : Nat) {x : Wi} (hx : S.ws[n]? = some x) : x.back = 0 := by
  obtain ⟨y, hS, hy⟩ := h
  generalize S.now = t at hS
  subst hS
  cases n with
  | zero => obtain rfl : y = x := by simpa [oneS] using hx
            exact hy.back
  | succ n => simp [oneS] at hx
theorem mput (h : Od B W p S N D w) (h1 : OneS S) (m : Mo) (ho : m.op = 1) (dv : Value) (hb : SrcB D w dv m.b) (hl : m.b.length ≤ 1000) (hN : N ≤ 890000000) :
    Calls Tryz.prog 26 #[.pointer (some ⟨p, 0, none⟩), .int .i64 m.wire, dv] w fun e w' => (∃ a b, e = .returned (.tuple #[.int .i64 a, .int .i64 b])) ∧ OdM B W p (mkMo S m) (N + 1010) D w w' := by
  cases hx : S.outer m.wire with
  | none =>
    rw [mk_none hx]
    obtain ⟨A, c, e, _, _, _⟩ := hb.form
    have h0 := h
    obtain ⟨L, rfl, h2, _⟩ := h
    refine (wPut_no h2 hx dv A _ c e).mono ?_
    rintro e w' ⟨rfl, rfl⟩
    exact ⟨⟨_, _, rfl⟩, (OdM.refl h0).more (by omega)⟩
  | some x =>
    rw [mk_some hx, if_pos ho]
    have hc := h1.at_ hx
    have hs := src_of hb
    have hl2 : (bytI m.b).length = m.b.length := by unfold bytI; simp
    obtain ⟨L, rfl, h2, h3, h4, h5⟩ := h
    obtain ⟨i, e, hi, _⟩ := Ws.outer_some hx
    refine (wPut_any h2 hx (hc.can false) dv (bytI m.b) (hs.less fun b hb hd => (h5 b hd).2 hb) ((h4 i x hi).mono (by omega))).mono ?_
    rintro e w' ⟨rfl, ht⟩
    exact ⟨⟨_, _, rfl⟩, Od.turned rfl h2 h3 h4 h5 ht ((Wi.le_putO (h4 i x hi) (bytI m.b)).mono (by omega)) (by omega)⟩
theorem mtk (h : Od B W p S N D w) (h1 : OneS S) (m : Mo) (ho : m.op = 2) (hn : I64 m.n) (hN : N ≤ 890000000) :
    Calls Tryz.prog 27 #[.pointer (some ⟨p, 0, none⟩), .int .i64 m.wire, .int .i64 m.n] w fun e w' => (∃ A n c b, e = .returned (.tuple #[.slice A n c, .int .i64 b])) ∧ OdM B W p (mkMo S m) (N + 1010) D w w' := by
  cases hx : S.outer m.wire with
  | none =>
    rw [mk_none hx]
    have h0 := h
    obtain ⟨L, rfl, h2, _⟩ := h
    refine (wTake_no h2 hx m.n).mono ?_
    rintro e w' ⟨rfl, rfl⟩
    exact ⟨⟨_, _, _, _, rfl⟩, (OdM.refl h0).more (by omega)⟩
  | some x =>
    rw [mk_some hx, if_neg (by omega), if_pos ho]
    have hc := h1.at_ hx
    refine (h.take hx (hc.can true) m.n hn (by omega) rfl).mono ?_
    rintro e w' ⟨v, rfl, hv, hm, _⟩
    obtain ⟨A, rfl, _⟩ := hv.form
    exact ⟨⟨_, _, _, _, rfl⟩, hm.more (by omega)⟩
theorem mshut (h : Od B W p S N D w) (h1 : OneS S) (m : Mo) (ho : m.op = 3) (hN : N ≤ 890000000) :
    Calls Tryz.prog 28 #[.pointer (some ⟨p, 0, none⟩), .int .i64 m.wire] w fun e w' => (∃ b, e = .returned (.int .i64 b)) ∧ OdM B W p (mkMo S m) (N + 1010) D w w' := by
  cases hx : S.outer m.wire with
  | none =>
    rw [mk_none hx]
    have h0 := h
    obtain ⟨L, rfl, h2, _⟩ := h
    refine (wPeerShut_no h2 hx).mono ?_
    rintro e w' ⟨rfl, rfl⟩
    exact ⟨⟨_, rfl⟩, (OdM.refl h0).more (by omega)⟩
  | some x =>
    rw [mk_some hx, if_neg (by omega), if_neg (by omega), if_pos ho]
    refine (h.peerShut hx (by omega)).mono ?_
    rintro e w' ⟨rfl, hm⟩
    exact ⟨⟨_, rfl⟩, hm.more (by omega)⟩
theorem mclose (h : Od B W p S N D w) (h1 : OneS S) (m : Mo) (ho : m.op = 4) (hN : N ≤ 890000000) :
    Calls Tryz.prog 29 #[.pointer (some ⟨p, 0, none⟩), .int .i64 m.wire] w fun e w' => (∃ b, e = .returned (.int .i64 b)) ∧ OdM B W p (mkMo S m) (N + 1010) D w w' := by
  cases hx : S.outer m.wire with
  | none =>
    rw [mk_none hx]
    have h0 := h
    obtain ⟨L, rfl, h2, _⟩ := h
    refine (wPeerClose_no h2 hx).mono ?_
    rintro e w' ⟨rfl, rfl⟩
    exact ⟨⟨_, rfl⟩, (OdM.refl h0).more (by omega)⟩
  | some x =>
    rw [mk_some hx, if_neg (by omega), if_neg (by omega), if_neg (by omega), if_pos ho]
    refine (h.peerClose hx (by omega)).mono ?_
    rintro e w' ⟨rfl, hm⟩
    exact ⟨⟨_, rfl⟩, hm.more (by omega)⟩
theorem mreset (h : Od B W p S N D w) (h1 : OneS S) (m : Mo) (ho : m.op = 5) (hN : N ≤ 890000000) :
    Calls Tryz.prog 30 #[.pointer (some ⟨p, 0, none⟩), .int .i64 m.wire] w fun e w' => (∃ b, e = .returned (.int .i64 b)) ∧ OdM B W p (mkMo S m) (N + 1010) D w w' := by
  cases hx : S.outer m.wire with
  | none =>
    rw [mk_none hx]
    have h0 := h
    obtain ⟨L, rfl, h2, _⟩ := h
    refine (wReset_no h2 hx).mono ?_
    rintro e w' ⟨rfl, rfl⟩
    exact ⟨⟨_, rfl⟩, (OdM.refl h0).more (by omega)⟩
  | some x =>
    rw [mk_some hx, if_neg (by omega), if_neg (by omega), if_neg (by omega), if_neg (by omega), if_pos ho]
    refine (h.reset hx (h1.at_ hx).can (by omega)).mono ?_
    rintro e w' ⟨rfl, hm⟩
    exact ⟨⟨_, rfl⟩, hm.more (by omega)⟩
theorem mconn (h : Od B W p S N D w) (h1 : OneS S) (m : Mo) (ho : m.op = 6) (hN : N ≤ 890000000) :
    Calls Tryz.prog 31 #[.pointer (some ⟨p, 0, none⟩), .int .i64 m.wire, .int .i64 m.n] w fun e w' => (∃ a b, e = .returned (.tuple #[.int .i64 a, .int .i64 b])) ∧ OdM B W p (mkMo S m) (N + 1010) D w w' := by
  have e0 : mkMo S m = S := by
    unfold mkMo
    split
    · rfl
    · rw [if_neg (by omega), if_neg (by omega), if_neg (by omega), if_neg (by omega), if_neg (by omega)]
  rw [e0]
  have h0 := h
  obtain ⟨L, rfl, h2, _⟩ := h
  refine (wConnect_no h2 m.wire m.n (fun x _ hx => h1.back _ hx)).mono ?_
  rintro e w' ⟨rfl, q, rfl⟩
  exact ⟨⟨_, _, rfl⟩, (OdM.drewN h0 q).more (by omega)⟩
theorem mraise (h : Od B W p S N D w) (h1 : OneS S) (m : Mo) (ho : m.op = 7) (hN : N ≤ 890000000) :
    Calls Tryz.prog 32 #[.pointer (some ⟨p, 0, none⟩), .int .i64 m.n] w fun e w' => (∃ b, e = .returned (.int .i64 b)) ∧ OdM B W p (mkMo S m) (N + 1010) D w w' := by
  have e0 : mkMo S m = S := by
    unfold mkMo
    split
    · rfl
    · rw [if_neg (by omega), if_neg (by omega), if_neg (by omega), if_neg (by omega), if_neg (by omega)]
  have e1 : S.sg = T.new ∧ S.nt = none := by
    obtain ⟨y, hS, _⟩ := h1
    rw [hS]; exact ⟨rfl, rfl⟩
  have e2 : (S.sig (S.sg.rise m.n)).note = S := by
    have hr : S.sg.rise m.n = S.sg := by
      rw [e1.1]
      unfold T.rise T.raise
      split
      · rw [if_neg (by simp [T.new])]
      · rfl
    rw [hr]
    exact Ws.note_none (show (S.sig S.sg).nt = none from e1.2)
  rw [e0]
  obtain ⟨L, rfl, h2, h3, h4, h5⟩ := h
  refine (wRaise_any h2 m.n (h4.mono (by omega)) (fun i k x hn => by rw [e1.2] at hn; cases hn) (fun i => by rw [e1.1]; exact Nat.zero_le _)).mono ?_
  rintro e w' ⟨rfl, L', k1, k2, k3⟩
  rw [e2] at k1
  exact ⟨⟨_, rfl⟩, (Od.go rfl h2 h3 h5 k1 k2.p k3 h4).more (by omega)⟩
end
section
variable {B : Nat} {W w w' : World} {p : Nat} {S : Ws} {N : Nat} {D : Nat → Prop}
set_option maxRecDepth 100000 in
set_option maxHeartbeats 8000000 in
theorem make_any (h : Od B W p S N D w) (h1 : OneS S) (m : Mo) (dv : Value) (hm : mvOk m = true) (hwf : m.Wf) (hT : TabF w) (hb : SrcB D w dv m.b) (hN : N ≤ 890000000) :
    Calls Tryz.prog 8 #[.pointer (some ⟨p, 0, none⟩), .agg #[.int .i64 m.op, .int .i64 m.wire, .int .i64 m.n, dv]] w fun e w' => (∃ a b, e = .returned (.tuple #[.int .i64 a, .int .i64 b])) ∧ OdM B W p (mkMo S m) (N + 1010) D w w' := by
  have hal : Below w.heap.size w (w.alloc (.cells #[.int .i64 m.op, .int .i64 m.wire, .int .i64 m.n, dv] 25)) := (Below.refl _ _).alloc (Nat.le_refl _) _
  have hv := valid_any (D := fun g => D g ∧ g < w.heap.size) m dv (w.alloc (.cells #[.int .i64 m.op, .int .i64 m.wire, .int .i64 m.n, dv] 25)) (hT.below hal) ((hb.weak (fun g h1 h2 => ⟨h2, h1⟩)).same (fun g hg _ => hal.block g hg.2) hal.size)
  rw [hm] at hv
  have hblk := Blk.new w 25 #[.int .i64 m.op, .int .i64 m.wire, .int .i64 m.n, dv]
  have hod := h.alloc (.cells #[.int .i64 m.op, .int .i64 m.wire, .int .i64 m.n, dv] 25)
  obtain ⟨⟨o1, o2⟩, _, _, hlen, _⟩ := (mvOk_iff m).1 hm
  obtain ⟨A, c, rfl, _, _, _⟩ := hb.form
  obtain ⟨X, hX⟩ : ∃ X, X = w.alloc (.cells #[.int .i64 m.op, .int .i64 m.wire, .int .i64 m.n, .slice A m.b.length c] 25) := ⟨_, rfl⟩
  obtain ⟨nb, hnb⟩ : ∃ nb, nb = m.b.length := ⟨_, rfl⟩
  rw [← hX] at hal hv hblk hod
  have HV := Lib.hid hv
  have HB := Lib.hid (And.intro hblk (And.intro hod (And.intro h1 (And.intro hal (And.intro hb (And.intro hlen (And.intro hwf (And.intro hN h))))))))
  rw [← hnb] at hX ⊢
  have hop : m.op = 1 ∨ m.op = 2 ∨ m.op = 3 ∨ m.op = 4 ∨ m.op = 5 ∨ m.op = 6 ∨ m.op = 7 := by omega
  clear hv hblk hod h h1 hm hT hwf hal hlen o1 o2 hN hb
  rcases hop with ho | ho | ho | ho | ho | ho | ho
  · have HO := Lib.hid ho
    rw [ho] at hX ⊢
    rw [ho, ← hnb] at HV
    rw [ho] at HB
    clear ho hnb
    go_enter Tryz.func8, Tryz.ntmps8
    go_wp2_with fail
    rw [← hX]
    clear hX
    go_wp2_with (go_at_call 25; refine HV.out.mono ?_; rintro e w2 ⟨rfl, hb2⟩; have q := HB.out.1.same (hb2.block _ HB.out.1.lt); have c0 := q.cell 0; have c1 := q.cell 1; have c2 := q.cell 2; have c3 := q.cell 3; have lq := q.lt; simp at c0 c1 c2 c3; have HB2 := Lib.hid (And.intro (HB.out.2.1.below hb2) (And.intro (show SrcB _ w2 _ _ from (HB.out.2.2.2.2.1.weak (fun g _ hg => Or.inr hg)).same (fun g hg hl => (hb2.block g (HB.out.2.1.lt hg)).trans (HB.out.2.2.2.1.block g hl)) (Nat.le_trans HB.out.2.2.2.1.size hb2.size)) hb2)); clear hb2 q)
    have HC := Lib.hid (mput HB2.out.1 HB.out.2.2.1 m HO.out _ HB2.out.2.1 HB.out.2.2.2.2.2.1 HB.out.2.2.2.2.2.2.2.1)
    go_wp2_with (go_at_call 26; refine HC.out.mono ?_; rintro e w3 ⟨⟨a, b, rfl⟩, hm⟩; have HE := Lib.hid hm; clear hm)
    go_ret2
    obtain ⟨k1, k2, k3⟩ := HE.out
    refine ⟨⟨_, _, rfl⟩, k1.less (fun b hb => Or.inr hb), fun b hb => (k2 b (Or.inr hb)).trans ((HB2.out.2.2.block b (HB.out.2.1.lt (Or.inr hb))).trans (HB.out.2.2.2.1.block b (HB.out.2.2.2.2.2.2.2.2.lt hb))), Nat.le_trans HB.out.2.2.2.1.size (Nat.le_trans HB2.out.2.2.size k3)⟩
  · have HO := Lib.hid ho
    rw [ho] at hX ⊢
    rw [ho, ← hnb] at HV
    rw [ho] at HB
    clear ho hnb
    go_enter Tryz.func8, Tryz.ntmps8
    go_wp2_with fail
    rw [← hX]
    clear hX
    go_wp2_with (go_at_call 25; refine HV.out.mono ?_; rintro e w2 ⟨rfl, hb2⟩; have q := HB.out.1.same (hb2.block _ HB.out.1.lt); have c0 := q.cell 0; have c1 := q.cell 1; have c2 := q.cell 2; have c3 := q.cell 3; have lq := q.lt; simp at c0 c1 c2 c3; have HB2 := Lib.hid (And.intro (HB.out.2.1.below hb2) (And.intro (show SrcB _ w2 _ _ from (HB.out.2.2.2.2.1.weak (fun g _ hg => Or.inr hg)).same (fun g hg hl => (hb2.block g (HB.out.2.1.lt hg)).trans (HB.out.2.2.2.1.block g hl)) (Nat.le_trans HB.out.2.2.2.1.size hb2.size)) hb2)); clear hb2 q)
    have HC := Lib.hid (mtk HB2.out.1 HB.out.2.2.1 m HO.out HB.out.2.2.2.2.2.2.1.2.2 HB.out.2.2.2.2.2.2.2.1)
    go_wp2_with (go_at_call 27; refine HC.out.mono ?_; rintro e w3 ⟨⟨A2, n2, c2, b2, rfl⟩, hm⟩; have HE := Lib.hid hm; clear hm)
    go_ret2
    obtain ⟨k1, k2, k3⟩ := HE.out
    refine ⟨⟨_, _, rfl⟩, k1.less (fun b hb => Or.inr hb), fun b hb => (k2 b (Or.inr hb)).trans ((HB2.out.2.2.block b (HB.out.2.1.lt (Or.inr hb))).trans (HB.out.2.2.2.1.block b (HB.out.2.2.2.2.2.2.2.2.lt hb))), Nat.le_trans HB.out.2.2.2.1.size (Nat.le_trans HB2.out.2.2.size k3)⟩
  · have HO := Lib.hid ho
    rw [ho] at hX ⊢
    rw [ho, ← hnb] at HV
    rw [ho] at HB
    clear ho hnb
    go_enter Tryz.func8, Tryz.ntmps8
    go_wp2_with fail
    rw [← hX]
    clear hX
    go_wp2_with (go_at_call 25; refine HV.out.mono ?_; rintro e w2 ⟨rfl, hb2⟩; have q := HB.out.1.same (hb2.block _ HB.out.1.lt); have c0 := q.cell 0; have c1 := q.cell 1; have c2 := q.cell 2; have c3 := q.cell 3; have lq := q.lt; simp at c0 c1 c2 c3; have HB2 := Lib.hid (And.intro (HB.out.2.1.below hb2) (And.intro (show SrcB _ w2 _ _ from (HB.out.2.2.2.2.1.weak (fun g _ hg => Or.inr hg)).same (fun g hg hl => (hb2.block g (HB.out.2.1.lt hg)).trans (HB.out.2.2.2.1.block g hl)) (Nat.le_trans HB.out.2.2.2.1.size hb2.size)) hb2)); clear hb2 q)
    have HC := Lib.hid (mshut HB2.out.1 HB.out.2.2.1 m HO.out HB.out.2.2.2.2.2.2.2.1)
    go_wp2_with (go_at_call 28; refine HC.out.mono ?_; rintro e w3 ⟨⟨b, rfl⟩, hm⟩; have HE := Lib.hid hm; clear hm)
    go_ret2
    obtain ⟨k1, k2, k3⟩ := HE.out
    refine ⟨⟨_, _, rfl⟩, k1.less (fun b hb => Or.inr hb), fun b hb => (k2 b (Or.inr hb)).trans ((HB2.out.2.2.block b (HB.out.2.1.lt (Or.inr hb))).trans (HB.out.2.2.2.1.block b (HB.out.2.2.2.2.2.2.2.2.lt hb))), Nat.le_trans HB.out.2.2.2.1.size (Nat.le_trans HB2.out.2.2.size k3)⟩
  · have HO := Lib.hid ho
    rw [ho] at hX ⊢
    rw [ho, ← hnb] at HV
    rw [ho] at HB
    clear ho hnb
    go_enter Tryz.func8, Tryz.ntmps8
    go_wp2_with fail
    rw [← hX]
    clear hX
    go_wp2_with (go_at_call 25; refine HV.out.mono ?_; rintro e w2 ⟨rfl, hb2⟩; have q := HB.out.1.same (hb2.block _ HB.out.1.lt); have c0 := q.cell 0; have c1 := q.cell 1; have c2 := q.cell 2; have c3 := q.cell 3; have lq := q.lt; simp at c0 c1 c2 c3; have HB2 := Lib.hid (And.intro (HB.out.2.1.below hb2) (And.intro (show SrcB _ w2 _ _ from (HB.out.2.2.2.2.1.weak (fun g _ hg => Or.inr hg)).same (fun g hg hl => (hb2.block g (HB.out.2.1.lt hg)).trans (HB.out.2.2.2.1.block g hl)) (Nat.le_trans HB.out.2.2.2.1.size hb2.size)) hb2)); clear hb2 q)
    have HC := Lib.hid (mclose HB2.out.1 HB.out.2.2.1 m HO.out HB.out.2.2.2.2.2.2.2.1)
    go_wp2_with (go_at_call 29; refine HC.out.mono ?_; rintro e w3 ⟨⟨b, rfl⟩, hm⟩; have HE := Lib.hid hm; clear hm)
    go_ret2
    obtain ⟨k1, k2, k3⟩ := HE.out
    refine ⟨⟨_, _, rfl⟩, k1.less (fun b hb => Or.inr hb), fun b hb => (k2 b (Or.inr hb)).trans ((HB2.out.2.2.block b (HB.out.2.1.lt (Or.inr hb))).trans (HB.out.2.2.2.1.block b (HB.out.2.2.2.2.2.2.2.2.lt hb))), Nat.le_trans HB.out.2.2.2.1.size (Nat.le_trans HB2.out.2.2.size k3)⟩
  · have HO := Lib.hid ho
    rw [ho] at hX ⊢
    rw [ho, ← hnb] at HV
    rw [ho] at HB
    clear ho hnb
    go_enter Tryz.func8, Tryz.ntmps8
    go_wp2_with fail
    rw [← hX]
    clear hX
    go_wp2_with (go_at_call 25; refine HV.out.mono ?_; rintro e w2 ⟨rfl, hb2⟩; have q := HB.out.1.same (hb2.block _ HB.out.1.lt); have c0 := q.cell 0; have c1 := q.cell 1; have c2 := q.cell 2; have c3 := q.cell 3; have lq := q.lt; simp at c0 c1 c2 c3; have HB2 := Lib.hid (And.intro (HB.out.2.1.below hb2) (And.intro (show SrcB _ w2 _ _ from (HB.out.2.2.2.2.1.weak (fun g _ hg => Or.inr hg)).same (fun g hg hl => (hb2.block g (HB.out.2.1.lt hg)).trans (HB.out.2.2.2.1.block g hl)) (Nat.le_trans HB.out.2.2.2.1.size hb2.size)) hb2)); clear hb2 q)
    have HC := Lib.hid (mreset HB2.out.1 HB.out.2.2.1 m HO.out HB.out.2.2.2.2.2.2.2.1)
    go_wp2_with (go_at_call 30; refine HC.out.mono ?_; rintro e w3 ⟨⟨b, rfl⟩, hm⟩; have HE := Lib.hid hm; clear hm)
    go_ret2
    obtain ⟨k1, k2, k3⟩ := HE.out
    refine ⟨⟨_, _, rfl⟩, k1.less (fun b hb => Or.inr hb), fun b hb => (k2 b (Or.inr hb)).trans ((HB2.out.2.2.block b (HB.out.2.1.lt (Or.inr hb))).trans (HB.out.2.2.2.1.block b (HB.out.2.2.2.2.2.2.2.2.lt hb))), Nat.le_trans HB.out.2.2.2.1.size (Nat.le_trans HB2.out.2.2.size k3)⟩
  · have HO := Lib.hid ho
    rw [ho] at hX ⊢
    rw [ho, ← hnb] at HV
    rw [ho] at HB
    clear ho hnb
    go_enter Tryz.func8, Tryz.ntmps8
    go_wp2_with fail
    rw [← hX]
    clear hX
    go_wp2_with (go_at_call 25; refine HV.out.mono ?_; rintro e w2 ⟨rfl, hb2⟩; have q := HB.out.1.same (hb2.block _ HB.out.1.lt); have c0 := q.cell 0; have c1 := q.cell 1; have c2 := q.cell 2; have c3 := q.cell 3; have lq := q.lt; simp at c0 c1 c2 c3; have HB2 := Lib.hid (And.intro (HB.out.2.1.below hb2) (And.intro (show SrcB _ w2 _ _ from (HB.out.2.2.2.2.1.weak (fun g _ hg => Or.inr hg)).same (fun g hg hl => (hb2.block g (HB.out.2.1.lt hg)).trans (HB.out.2.2.2.1.block g hl)) (Nat.le_trans HB.out.2.2.2.1.size hb2.size)) hb2)); clear hb2 q)
    have HC := Lib.hid (mconn HB2.out.1 HB.out.2.2.1 m HO.out HB.out.2.2.2.2.2.2.2.1)
    go_wp2_with (go_at_call 31; refine HC.out.mono ?_; rintro e w3 ⟨⟨a, b, rfl⟩, hm⟩; have HE := Lib.hid hm; clear hm)
    go_ret2
    obtain ⟨k1, k2, k3⟩ := HE.out
    refine ⟨⟨_, _, rfl⟩, k1.less (fun b hb => Or.inr hb), fun b hb => (k2 b (Or.inr hb)).trans ((HB2.out.2.2.block b (HB.out.2.1.lt (Or.inr hb))).trans (HB.out.2.2.2.1.block b (HB.out.2.2.2.2.2.2.2.2.lt hb))), Nat.le_trans HB.out.2.2.2.1.size (Nat.le_trans HB2.out.2.2.size k3)⟩
  · have HO := Lib.hid ho
    rw [ho] at hX ⊢
    rw [ho, ← hnb] at HV
    rw [ho] at HB
    clear ho hnb
    go_enter Tryz.func8, Tryz.ntmps8
    go_wp2_with fail
    rw [← hX]
    clear hX
    go_wp2_with (go_at_call 25; refine HV.out.mono ?_; rintro e w2 ⟨rfl, hb2⟩; have q := HB.out.1.same (hb2.block _ HB.out.1.lt); have c0 := q.cell 0; have c1 := q.cell 1; have c2 := q.cell 2; have c3 := q.cell 3; have lq := q.lt; simp at c0 c1 c2 c3; have HB2 := Lib.hid (And.intro (HB.out.2.1.below hb2) (And.intro (show SrcB _ w2 _ _ from (HB.out.2.2.2.2.1.weak (fun g _ hg => Or.inr hg)).same (fun g hg hl => (hb2.block g (HB.out.2.1.lt hg)).trans (HB.out.2.2.2.1.block g hl)) (Nat.le_trans HB.out.2.2.2.1.size hb2.size)) hb2)); clear hb2 q)
    have HC := Lib.hid (mraise HB2.out.1 HB.out.2.2.1 m HO.out HB.out.2.2.2.2.2.2.2.1)
    go_wp2_with (go_at_call 32; refine HC.out.mono ?_; rintro e w3 ⟨⟨b, rfl⟩, hm⟩; have HE := Lib.hid hm; clear hm)
    go_ret2
    obtain ⟨k1, k2, k3⟩ := HE.out
    refine ⟨⟨_, _, rfl⟩, k1.less (fun b hb => Or.inr hb), fun b hb => (k2 b (Or.inr hb)).trans ((HB2.out.2.2.block b (HB.out.2.1.lt (Or.inr hb))).trans (HB.out.2.2.2.1.block b (HB.out.2.2.2.2.2.2.2.2.lt hb))), Nat.le_trans HB.out.2.2.2.1.size (Nat.le_trans HB2.out.2.2.size k3)⟩
end
end Go.Proofs.YtlephnfepofbbaaGreatDoor
