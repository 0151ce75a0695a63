/-
  Listen.
-/
import Derived.Test.YtjejpgognfadoaaGreatDoorWdShut
namespace Go.Proofs.YtjejpgognfadoaaGreatDoor
open Go.RowKit Go.Shelf Go.Maps Go.ChangeMaps

attribute [local go_sem] Oper.semAt_some

theorem Wb.setBack {w : World} {g n : Nat} {r : Bool → Nat} {v : Value} {x : Wi} (h : Wb w g n r v x) (m : Nat) : Wb (w.setCell ⟨g, 16, none⟩ (.int .i64 (m : Int))) g n r v { x with back := m } := by
  have := Blk.set_ h 16 (.int .i64 (m : Int)); exact this
/-- What Listen leaves. -/
def MadeL (w : World) (B : Nat) (L : Lay) (S : Ws) (x : Wi) (e : Ending) (w' : World) : Prop := ∃ fd : Nat, S.frees[0]? = some fd ∧ e = .returned (.tuple #[.int .i64 (fd : Int), .int .i64 (S.ws.length : Int), .int .i64 0]) ∧
  ∃ L', Wd w' B L' ((S.addW x).opened S.ws.length false fd) ∧ L.ext L' S.ws.length ∧ Mv w w' L.F L'.F ∧ L'.wt S.ws.length = .slice none 0 0
/-- A listener. -/
def lisW (n : Nat) : Wi := { Wi.new 0 0 with back := n }
section
variable {w w' : World} {B : Nat} {L : Lay} {S : Ws}
set_option maxRecDepth 100000 in
set_option maxHeartbeats 4000000 in
theorem wListen_ok (h : Wd w B L S) (n : Nat) (hn : 1 ≤ n) (hm : n ≤ 64) (hw : S.ws.length < 1000) (hf : 1 ≤ S.frees.length) :
    Calls Tryz.prog 13 #[.pointer (some ⟨L.p, 0, none⟩), .int .i64 (n : Int)] w (MadeL w B L S (lisW n)) := by
  have HR := Lib.hid (room_ok h n 64 1 hn hm hw (Nat.le_refl _) hf)
  obtain ⟨a, ha, hta⟩ := take_one hf
  have HA := Lib.hid (And.intro ha (Ws.frees_lt ha))
  have H := Lib.hid (And.intro h (And.intro hm hw))
  clear h hw hf
  go_enter Tryz.func13, Tryz.ntmps13
  go_wp2_with fail
  refine HR.out.mono ?_
  rintro e w1 ⟨hb, v, rfl, hrow⟩
  rw [hta] at hrow
  obtain ⟨A, c, rfl, hA⟩ := ri_at hrow
  obtain ⟨g0, rfl, hg0, hg1, hc⟩ := hA (by simp)
  have hw1 := H.out.1.below hb
  have c0 := hw1.top.cell 0
  simp at c0
  have lp := hw1.top.lt
  have HL := Lib.hid (wlay_any hw1 0 0 (by omega) (by omega) (by have := H.out.2.2; omega))
  have HB := Lib.hid (And.intro (H.out.1.beside hb.size hg0 hg1) (And.intro hb (hc 0 a rfl)))
  clear hw1 hrow hA hb hc
  go_wp2_with fail
  refine HL.out.mono ?_
  rintro e w2 ⟨_, rfl, L2, g, rfl, h1, h2, h3, h4, h5⟩
  have hx0 := Ws.addW_last S (Wi.new 0 0)
  have hwx0 := (h1.wire _ _ hx0).blk
  have hwx1 := hwx0.setBack n
  obtain ⟨L3, j1, j2, j3⟩ := h1.turnW hx0 hwx1 ((Kept.refl (fun j => j = L2.wa S.ws.length) w2).setCell (p := ⟨L2.wa S.ws.length, 16, none⟩) rfl _) (show (Wi.new 0 0).sameR { Wi.new 0 0 with back := n } from ⟨rfl, fun _ => ⟨rfl, rfl, rfl⟩⟩) rfl
  rw [h3] at j1 j3
  rw [show (S.addW (Wi.new 0 0)).setW S.ws.length { Wi.new 0 0 with back := n } = S.addW (lisW n) from Ws.addW_setW _ _ _] at j1
  rw [Ws.addW_len] at j2
  have f16 := hwx0.frozen 16
  have c16 : w2.cell? ⟨L2.wa S.ws.length, 16, none⟩ = some (.int .i64 0) := by rw [Blk.cell hwx0]; rfl
  rw [h3] at f16 c16
  obtain ⟨wS, hwS⟩ : ∃ wS, wS = w2.setCell ⟨g, 16, none⟩ (.int .i64 (n : Int)) := ⟨_, rfl⟩
  rw [← hwS] at j1 j3
  have d0 := j1.top.cell 0
  rw [j2.p, h2.p, j2.kb, h2.kb] at d0
  simp at d0
  obtain ⟨b1, b2⟩ := HB.out.1.mv h4
  obtain ⟨b1, b2'⟩ := b1.mv j3
  have e0 : wS.cell? ⟨g0, 0, none⟩ = some (.int .i64 (a : Int)) := (World.cell?_of_block (b2'.trans b2)).trans HB.out.2.2
  have lg0 := b1.1
  have lp2 : L.p < wS.heap.size := Nat.lt_of_lt_of_le lp (Nat.le_trans h4.k.size j3.k.size)
  have lgs : g < w2.heap.size := by have := hwx0.lt; rw [h3] at this; exact this
  have hx := Ws.addW_last S (lisW n)
  have hwx := (j1.wire _ _ hx).blk
  rw [j2.wa _ (by omega), h3] at hwx
  have lg := hwx.lt
  have HO := Lib.hid (wopen_any (j1.drewN 1) hx false a HA.out.2)
  rw [j2.wa _ (by omega), h3, off_f, j2.kb, h2.kb] at HO
  have H2 := Lib.hid (And.intro j1 (And.intro (h2.trans j2 (by omega)) (And.intro (show L3.wa S.ws.length = g by rw [j2.wa _ (by omega), h3]) (And.intro (h4.trans j3) (And.intro b1 ((j2.wt _ (by omega)).trans h5))))))
  have HW := Lib.hid hwS
  clear h1 h2 h3 h4 h5 b1 b2 b2' hwx hwx0 hwx1 j1 j2 j3 hwS
  go_wp2_with fail
  rw [← HW.out]
  go_still_tail 11, (by kernel_rfl)
  change wpList _ _ _ _ _ wS.drew
  go_wp2_with fail
  refine HO.out.mono ?_
  rintro e w3 ⟨rfl, L4, k1, k2, k3⟩
  obtain ⟨h1, h2, h3, h4, b1, h5⟩ := H2.out
  rw [Ws.addW_len] at k2
  have hm2 : Mv wS w3 L3.F L4.F := ⟨((Kept.refl L3.F wS).drewN 1).trans k3.k, k3.o⟩
  obtain ⟨b3, b4⟩ := b1.mv hm2
  have e1 : w3.cell? ⟨g0, 0, none⟩ = some (.int .i64 (a : Int)) := (World.cell?_of_block b4).trans e0
  have lg3 := b3.1
  have hy : ((S.addW (lisW n)).opened S.ws.length false a).ws[S.ws.length]? = some ((lisW n).mark false 1) := by
    rw [Ws.opened_of hx]
    show ((S.addW (lisW n)).setW S.ws.length ((lisW n).mark false 1)).ws[S.ws.length]? = _
    rw [Ws.addW_setW]
    exact Ws.addW_last _ _
  have hwy := (k1.wire _ _ hy).blk
  rw [k2.wa _ (by omega), h3] at hwy
  have w0 := hwy.w0
  have lg4 := hwy.lt
  have HE := Lib.hid (show ∃ L', Wd w3 B L' ((S.addW (lisW n)).opened S.ws.length false a) ∧ L.ext L' S.ws.length ∧ Mv w w3 L.F L'.F ∧ L'.wt S.ws.length = .slice none 0 0 from
    ⟨L4, k1, h2.trans k2 (by omega), (show Mv w w1 L.F L.F from ⟨Kept.of_below HB.out.2.1, fun _ e => .inl e⟩).trans (h4.trans hm2), (k2.wt _ (by omega)).trans h5⟩)
  clear h1 h2 h3 h4 h5 b1 k1 k2 k3 hm2 b3 b4 hy hwy
  go_wp2_with fail
  go_quiet (fail)
  obtain ⟨q, hq⟩ : ∃ q, q = nq := ⟨_, rfl⟩
  have HQ := Lib.hid (show ∃ L', Wd (w3.drewN nq) B L' ((S.addW (lisW n)).opened S.ws.length false a) ∧ L.ext L' S.ws.length ∧ Mv w (w3.drewN nq) L.F L'.F ∧ L'.wt S.ws.length = .slice none 0 0 by
    obtain ⟨L', k1, k2, k3, k4⟩ := HE.out
    exact ⟨L', k1.drewN nq, k2, ⟨k3.k.drewN nq, k3.o⟩, k4⟩)
  clear hq
  go_wp2_with fail
  go_ret3
  exact ⟨a, HA.out.1, rfl, HQ.out⟩
end
section
variable {B : Nat} {W w w' : World} {p : Nat} {S : Ws} {N : Nat} {D : Nat → Prop}
theorem Od.listen (h : Od B W p S N D w) (n : Nat) (hn : 1 ≤ n) (hm : n ≤ 64) (hw : S.ws.length < 1000) {fd : Nat} (hf : S.frees[0]? = some fd) :
    Calls Tryz.prog 13 #[.pointer (some ⟨p, 0, none⟩), .int .i64 (n : Int)] w fun e w' => e = .returned (.tuple #[.int .i64 (fd : Int), .int .i64 (S.ws.length : Int), .int .i64 0]) ∧ OdM B W p ((S.addW (lisW n)).opened S.ws.length false fd) N D w w' := by
  obtain ⟨L, rfl, h2, h3, h4, h5⟩ := h
  refine (wListen_ok h2 n hn hm hw (by have := (List.getElem?_eq_some_iff.1 hf).1; omega)).mono ?_
  rintro e w' ⟨fd', hf', rfl, L', k1, k2, k3, _⟩
  rw [hf] at hf'
  cases hf'
  exact ⟨rfl, Od.go rfl h2 h3 h5 k1 k2.p k3 (Ws.le_opened (Ws.le_addW h4 (fun _ => ⟨Nat.zero_le _, Nat.zero_le _, Nat.zero_le _⟩)) _ _)⟩
end
end Go.Proofs.YtjejpgognfadoaaGreatDoor
