/-
  PeerClose; the kept block's notify.
-/
import Derived.Test.YtjejpgognfadoaaGreatDoorWdLaw
namespace Go.Proofs.YtjejpgognfadoaaGreatDoor
open Go.RowKit Go.Maps Go.ChangeMaps

attribute [local go_sem] Oper.semAt_some

theorem Wi.rd_wait (x : Wi) (k : Bool) : (x.rdRise k).wait = x.wait := by unfold Wi.rdRise; split <;> rfl
theorem Wi.wr_wait (x : Wi) (k : Bool) : (x.wrRise k).wait = x.wait := by unfold Wi.wrRise; split <;> rfl
theorem Wi.close_wait (x : Wi) (k : Bool) : (x.close k).wait = x.wait := by
  unfold Wi.close
  split
  · rw [Wi.wr_wait]; rfl
  · rw [Wi.wr_wait, Wi.rd_wait]; rfl
section
variable {w w' : World} {B : Nat} {L : Lay} {S : Ws}
theorem wPeerClose_any (h : Wd w B L S) {n : Int} {x : Wi} (ho : S.outer n = some x) (hN : x.le 900000000) :
    Calls Tryz.prog 12 #[.pointer (some ⟨L.p, 0, none⟩), .int .i64 n] w fun e w' => e = .returned (.int .i64 0) ∧ Turned w B L S n.toNat (x.close true) w' := by
  obtain ⟨i, rfl, hx, his⟩ := Ws.outer_some ho
  have hi := (List.getElem?_eq_some_iff.1 hx).1
  have hwr := h.wire i x hx
  have HF := Lib.hid (outer_yes h ho)
  rw [Int.toNat_natCast] at HF
  rw [Int.toNat_natCast]
  have H := Lib.hid (And.intro h hx)
  have HS := Lib.hid (endclose_any hwr.blk true (hN.mono (by omega)))
  rw [off_t] at HS
  clear h hx hwr hN ho his hi
  go_enter Tryz.func12, Tryz.ntmps12
  go_wp2_with fail
  refine HF.out.mono ?_
  rintro e w1 ⟨rfl, rfl⟩
  go_wp2_with fail
  refine HS.out.mono ?_
  rintro e w1 ⟨rfl, h1, h2⟩
  have HE := Lib.hid (show Turned w B L S i (x.close true) w1 from H.out.1.turnW H.out.2 h1 h2 (Wi.sameR_close x true) (Wi.close_wait x true))
  clear h1 h2
  go_wp2_with fail
  go_ret
  exact ⟨rfl, HE.out⟩
end
section
variable {B : Nat} {W w w' : World} {p : Nat} {S : Ws} {N : Nat} {D : Nat → Prop}
theorem Od.peerClose (h : Od B W p S N D w) {n : Int} {x : Wi} (ho : S.outer n = some x) (hN : N ≤ 900000000) :
    Calls Tryz.prog 12 #[.pointer (some ⟨p, 0, none⟩), .int .i64 n] w fun e w' => e = .returned (.int .i64 0) ∧ OdM B W p (S.setW n.toNat (x.close true)) (N + 2) D w w' := by
  obtain ⟨L, rfl, h2, h3, h4, h5⟩ := h
  obtain ⟨i, e, hx, _⟩ := Ws.outer_some ho
  refine (wPeerClose_any h2 ho ((h4 i x hx).mono hN)).mono ?_
  rintro e w' ⟨rfl, ht⟩
  exact ⟨rfl, Od.turned rfl h2 h3 h4 h5 ht (Wi.le_close (h4 i x hx) true) (by omega)⟩
end
end Go.Proofs.YtjejpgognfadoaaGreatDoor
