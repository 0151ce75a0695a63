/-
  Reset: a wire fails.
-/
import Derived.Test.YtlephnfepofbbaaGreatDoorMtPure
namespace Go.Proofs.YtlephnfepofbbaaGreatDoor
open Go.RowKit Go.Shelf Go.Maps Go.ChangeMaps

section
variable {w w' : World} {B g n : Nat} {r : Bool → Nat} {F : Bool → Nat → Prop} {v : Value} {x : Wi}
theorem Wb.set15 (h : Wb w g n r v x) : Wb (w.setCell ⟨g, 15, none⟩ (.bool true)) g n r v x.broke := by
  have := Blk.set_ h 15 (.bool true); exact this
theorem lost_can (x : Wi) (k j : Bool) : ((x.lost k).e j).can = (x.e j).can := by
  unfold Wi.lost; rw [Wi.set_e]; split
  · rename_i e; subst e; rfl
  · rfl
theorem fails_can (x : Wi) (k j : Bool) : ((x.fails k).e j).can = (x.e j).can := by
  have h1 := (Wi.sameR_wr ((x.lost k).rdRise k) k).2 j
  have h2 := (Wi.sameR_rd (x.lost k) k).2 j
  unfold Wi.fails
  rw [h1.1, h2.1, lost_can]
/-- A wire whose block and rings have turned into this. -/
def FlI (w : World) (B g n : Nat) (r : Bool → Nat) (F : Bool → Nat → Prop) (v : Value) (y : Wi) (wr : World) : Prop := ∃ F1, Wr wr B g n r F1 v y ∧ Mv w wr (FW g F) (FW g F1)
set_option maxRecDepth 100000 in
set_option maxHeartbeats 4000000 in
theorem fail_any (h : Wr w B g n r F v x) (hcan : ∀ k, (x.e k).can = true) (hN : x.le 900000000) :
    Calls Tryz.prog 65 #[.pointer (some ⟨g, 0, none⟩)] w fun e w' => e = .returned (.tuple #[]) ∧ FlI w B g n r F v x.fail w' := by
  have w15 := h.blk.w15
  have f15 := h.blk.frozen 15
  have lg := h.blk.lt
  cases hrs : x.reset with
  | true =>
    rw [show x.fail = x from if_pos hrs]
    rw [hrs] at w15
    have HE := Lib.hid (show FlI w B g n r F v x w from ⟨F, h, ⟨Kept.refl _ w, fun _ e => .inl e⟩⟩)
    clear h hcan hN hrs f15
    go_enter Tryz.func65, Tryz.ntmps65
    go_wp2_with fail
    exact bodyPost_ret (results_none rfl _ _ _) rfl ⟨rfl, HE.out⟩
  | false =>
    rw [show x.fail = (x.broke.fails false).fails true from if_neg (by simp [hrs])]
    rw [hrs] at w15
    have k0 := (Kept.refl (fun j => j = g) w).setCell (p := ⟨g, 15, none⟩) rfl (.bool true)
    have HE := Lib.hid (show FlI w B g n r F v x.broke (w.setCell ⟨g, 15, none⟩ (.bool true)) from ⟨F, h.turn h.blk.set15 k0 ⟨rfl, fun _ => ⟨rfl, rfl, rfl⟩⟩, ⟨FW.kept k0, fun _ e => .inl e⟩⟩)
    have HC := Lib.hid hcan
    have HL := Lib.hid hN
    obtain ⟨W1, hW1⟩ : ∃ W1, W1 = w.setCell ⟨g, 15, none⟩ (.bool true) := ⟨_, rfl⟩
    rw [← hW1] at HE
    clear h hcan hN hrs k0
    go_enter Tryz.func65, Tryz.ntmps65
    go_wp2_with fail
    rw [← hW1]
    clear hW1 w15 f15 lg
    go_loopw [11] (fun i wr => (i = .int .i64 0 ∧ FlI w B g n r F v x.broke wr) ∨ (i = .int .i64 1 ∧ FlI w B g n r F v (x.broke.fails false) wr) ∨ (i = .int .i64 2 ∧ FlI w B g n r F v ((x.broke.fails false).fails true) wr)) (fun i _ => 2 - (intOf i).toNat)
    case atStart => exact .inl ⟨rfl, HE.out⟩
    case round =>
      clear HE
      rcases hrel with ⟨rfl, hf⟩ | ⟨rfl, hf⟩ | ⟨rfl, hf⟩
      · obtain ⟨F1, h1, m1⟩ := hf
        have hc : ((x.broke).e false).can = true := by exact HC.out _
        have hle : (x.broke).le 900000000 := HL.out
        obtain ⟨y, hy⟩ : ∃ y, y = x.broke := ⟨_, rfl⟩
        rw [← hy] at h1 hc hle
        obtain ⟨out, hr⟩ := h1.ring false hc
        have c4 := h1.blk.c4 false
        rw [hc, rp_yes, off_f] at c4
        have lg := h1.blk.lt
        have HCL := Lib.hid (clear_any hr)
        have H1 := Lib.hid (And.intro h1 (And.intro m1 (And.intro hc (And.intro hle hy))))
        clear h1 m1 hr hc hle hy
        go_wp2_with fail
        refine HCL.out.mono ?_
        rintro e w1 ⟨rfl, q1, q2⟩
        obtain ⟨F2, h2, m2, _⟩ := H1.out.1.ring1 (k := false) H1.out.2.2.1 q1 ⟨q2, fun _ e => .inl e⟩
        rw [show y.set false { y.e false with bs := [], inn := (y.e false).inn } = y.lost false from rfl] at h2
        have lg := h2.blk.lt
        have HR := Lib.hid (readsRise_any h2.blk false (Wi.le_lost (H1.out.2.2.2.1.mono (by omega)) false))
        rw [off_f] at HR
        have H2 := Lib.hid (And.intro h2 (H1.out.2.1.trans m2))
        clear q1 q2 h2 m2
        go_wp2_with fail
        refine HR.out.mono ?_
        rintro e w2 ⟨rfl, h5, h6⟩
        have h7 := H2.out.1.turn h5 h6 (Wi.sameR_rd _ false)
        have lg := h7.blk.lt
        have HR2 := Lib.hid (writesRise_any h7.blk false ((Wi.le_rdRise (Wi.le_lost H1.out.2.2.2.1 false) false).mono (by omega)))
        rw [off_f] at HR2
        have H3 := Lib.hid (And.intro h7 (H2.out.2.trans ⟨FW.kept h6, fun b hb => .inl hb⟩))
        clear h5 h6 h7
        go_wp2_with fail
        refine HR2.out.mono ?_
        rintro e w3 ⟨rfl, h8, h9⟩
        have HE := Lib.hid (show FlI w B g n r F v (x.broke.fails false) w3 from ⟨_, by
          have e := H3.out.1.turn h8 h9 (Wi.sameR_wr _ false)
          rw [H1.out.2.2.2.2] at e
          exact e, H3.out.2.trans ⟨FW.kept h9, fun b hb => .inl hb⟩⟩)
        clear h8 h9
        go_wp2_with fail
        go_roundw
        case rel => exact .inr (.inl ⟨by go_num, HE.out⟩)
        case measure => simp [intOf]
      · obtain ⟨F1, h1, m1⟩ := hf
        have hc : ((x.broke.fails false).e true).can = true := by rw [fails_can]; exact HC.out _
        have hle : (x.broke.fails false).le 900000002 := Wi.le_fails (show x.broke.le 900000000 from HL.out) false
        obtain ⟨y, hy⟩ : ∃ y, y = x.broke.fails false := ⟨_, rfl⟩
        rw [← hy] at h1 hc hle
        obtain ⟨out, hr⟩ := h1.ring true hc
        have c4 := h1.blk.c4 true
        rw [hc, rp_yes, off_t] at c4
        have lg := h1.blk.lt
        have HCL := Lib.hid (clear_any hr)
        have H1 := Lib.hid (And.intro h1 (And.intro m1 (And.intro hc (And.intro hle hy))))
        clear h1 m1 hr hc hle hy
        go_wp2_with fail
        refine HCL.out.mono ?_
        rintro e w1 ⟨rfl, q1, q2⟩
        obtain ⟨F2, h2, m2, _⟩ := H1.out.1.ring1 (k := true) H1.out.2.2.1 q1 ⟨q2, fun _ e => .inl e⟩
        rw [show y.set true { y.e true with bs := [], inn := (y.e true).inn } = y.lost true from rfl] at h2
        have lg := h2.blk.lt
        have HR := Lib.hid (readsRise_any h2.blk true (Wi.le_lost (H1.out.2.2.2.1.mono (by omega)) true))
        rw [off_t] at HR
        have H2 := Lib.hid (And.intro h2 (H1.out.2.1.trans m2))
        clear q1 q2 h2 m2
        go_wp2_with fail
        refine HR.out.mono ?_
        rintro e w2 ⟨rfl, h5, h6⟩
        have h7 := H2.out.1.turn h5 h6 (Wi.sameR_rd _ true)
        have lg := h7.blk.lt
        have HR2 := Lib.hid (writesRise_any h7.blk true ((Wi.le_rdRise (Wi.le_lost H1.out.2.2.2.1 true) true).mono (by omega)))
        rw [off_t] at HR2
        have H3 := Lib.hid (And.intro h7 (H2.out.2.trans ⟨FW.kept h6, fun b hb => .inl hb⟩))
        clear h5 h6 h7
        go_wp2_with fail
        refine HR2.out.mono ?_
        rintro e w3 ⟨rfl, h8, h9⟩
        have HE := Lib.hid (show FlI w B g n r F v ((x.broke.fails false).fails true) w3 from ⟨_, by
          have e := H3.out.1.turn h8 h9 (Wi.sameR_wr _ true)
          rw [H1.out.2.2.2.2] at e
          exact e, H3.out.2.trans ⟨FW.kept h9, fun b hb => .inl hb⟩⟩)
        clear h8 h9
        go_wp2_with fail
        go_roundw
        case rel => exact .inr (.inr ⟨by go_num, HE.out⟩)
        case measure => simp [intOf]
      · have HE := Lib.hid hf
        clear hf
        go_wp2_with fail
        go_end0
        exact ⟨rfl, HE.out⟩
end
section
variable {w w' : World} {B : Nat} {L : Lay} {S : Ws}
theorem wReset_any (h : Wd w B L S) {n : Int} {x : Wi} (ho : S.outer n = some x) (hcan : ∀ k, (x.e k).can = true) (hN : x.le 900000000) :
    Calls Tryz.prog 30 #[.pointer (some ⟨L.p, 0, none⟩), .int .i64 n] w fun e w' => e = .returned (.int .i64 0) ∧ Turned w B L S n.toNat x.fail w' := by
  obtain ⟨i, rfl, hx, his⟩ := Ws.outer_some ho
  have hi := (List.getElem?_eq_some_iff.1 hx).1
  have hwr := h.wire i x hx
  have HF := Lib.hid (outer_yes h ho)
  rw [Int.toNat_natCast] at HF
  rw [Int.toNat_natCast]
  have H := Lib.hid (And.intro h hx)
  have c0 := hwr.blk.c0 true
  rw [off_t] at c0
  have lg := hwr.blk.lt
  have HS := Lib.hid (fail_any hwr hcan hN)
  clear h hx hwr hN ho his hi hcan
  go_enter Tryz.func30, Tryz.ntmps30
  go_wp2_with fail
  refine HF.out.mono ?_
  rintro e w1 ⟨rfl, rfl⟩
  go_wp2_with fail
  refine HS.out.mono ?_
  rintro e w1 ⟨rfl, F1, h1, h2⟩
  have HE := Lib.hid (show Turned w B L S i x.fail w1 from Turned.of_wire H.out.1 H.out.2 0 h1 h2 (Wi.fail_wait x))
  clear h1 h2
  go_wp2_with fail
  go_ret
  exact ⟨rfl, HE.out⟩
end
section
variable {B : Nat} {W w w' : World} {p : Nat} {S : Ws} {N : Nat} {D : Nat → Prop}
theorem Od.reset (h : Od B W p S N D w) {n : Int} {x : Wi} (ho : S.outer n = some x) (hcan : ∀ k, (x.e k).can = true) (hN : N ≤ 900000000) :
    Calls Tryz.prog 30 #[.pointer (some ⟨p, 0, none⟩), .int .i64 n] w fun e w' => e = .returned (.int .i64 0) ∧ OdM B W p (S.setW n.toNat x.fail) (N + 4) D w w' := by
  obtain ⟨L, rfl, h2, h3, h4, h5⟩ := h
  obtain ⟨i, e, hx, _⟩ := Ws.outer_some ho
  refine (wReset_any h2 ho hcan ((h4 i x hx).mono hN)).mono ?_
  rintro e w' ⟨rfl, ht⟩
  exact ⟨rfl, Od.turned rfl h2 h3 h4 h5 ht (Wi.le_fail (h4 i x hx)) (by omega)⟩
end
end Go.Proofs.YtlephnfepofbbaaGreatDoor
