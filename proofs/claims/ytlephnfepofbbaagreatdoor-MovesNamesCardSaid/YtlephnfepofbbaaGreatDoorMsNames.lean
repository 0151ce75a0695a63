/-
  MovesNames: the chapter's examples.
-/
import Derived.Test.YtlephnfepofbbaaGreatDoorMsNam3
namespace Go.Proofs.YtlephnfepofbbaaGreatDoor
open Go.RowKit Go.Shelf Go.Maps Go.ChangeMaps

theorem wrong1 (s : ByteArray) (hs : s.size ≤ 1000) (h : parseS s.data.toList = .error 1) {w W : World} (hE : Env w.heap.size w) (hb : Below w.heap.size w W) : Calls Tryz.prog 6 #[.string s, .int .i64 1] W fun e w' => e = .returned (.bool true) ∧ Below W.heap.size W w' := wrong_any s hs 1 h W ((hE.below hb).more hb.size (Nat.le_refl _))
theorem wrong2 (s : ByteArray) (hs : s.size ≤ 1000) (h : parseS s.data.toList = .error 2) {w W : World} (hE : Env w.heap.size w) (hb : Below w.heap.size w W) : Calls Tryz.prog 6 #[.string s, .int .i64 2] W fun e w' => e = .returned (.bool true) ∧ Below W.heap.size W w' := wrong_any s hs 2 h W ((hE.below hb).more hb.size (Nat.le_refl _))
theorem wr_0 : parseS (⟨#[115, 116, 101, 112, 32, 48, 53, 10]⟩ : ByteArray).data.toList = .error 1 := by kernel_rfl
theorem wr_1 : parseS (⟨#[115, 116, 101, 112, 32, 49]⟩ : ByteArray).data.toList = .error 1 := by kernel_rfl
theorem wr_2 : parseS (⟨#[115, 116, 101, 112, 32, 49, 32, 112, 117, 116, 32, 48, 32, 54, 10]⟩ : ByteArray).data.toList = .error 1 := by kernel_rfl
theorem wr_3 : parseS (⟨#[115, 116, 101, 112, 32, 49, 10, 120, 10]⟩ : ByteArray).data.toList = .error 2 := by kernel_rfl
theorem wr_4 : parseS (⟨#[115, 116, 101, 112, 32, 49, 32, 112, 117, 116, 32, 48, 10]⟩ : ByteArray).data.toList = .error 1 := by kernel_rfl
theorem wr_5 : parseS (⟨#[115, 116, 101, 112, 32, 49, 32, 111, 114, 100, 101, 114, 10]⟩ : ByteArray).data.toList = .error 1 := by kernel_rfl
theorem wr_6 : parseS (⟨#[115, 116, 101, 112, 32, 49, 32, 111, 114, 100, 101, 114, 32, 49, 48, 48, 48, 10]⟩ : ByteArray).data.toList = .error 1 := by kernel_rfl
theorem wr_7 : parseS (⟨#[115, 116, 101, 112, 32, 49, 32, 32, 105, 110, 116, 114, 10]⟩ : ByteArray).data.toList = .error 1 := by kernel_rfl
theorem wr_8 : parseS (⟨#[115, 116, 101, 112, 32, 49, 32, 115, 104, 117, 116, 32, 48, 32, 53, 10]⟩ : ByteArray).data.toList = .error 1 := by kernel_rfl
theorem wr_9 : parseS (⟨#[115, 116, 101, 112, 32, 49, 56, 52, 52, 54, 55, 52, 52, 48, 55, 51, 55, 48, 57, 53, 53, 49, 54, 49, 54, 10]⟩ : ByteArray).data.toList = .error 1 := by kernel_rfl
theorem wr_10 : parseS (⟨#[115, 116, 101, 112, 32, 49, 32, 112, 117, 116, 32, 48, 32, 65, 66, 10]⟩ : ByteArray).data.toList = .error 1 := by kernel_rfl
theorem wr_11 : parseS (⟨#[10]⟩ : ByteArray).data.toList = .error 1 := by kernel_rfl
theorem parse_none {w W : World} (hE : Env w.heap.size w) (hb : Below w.heap.size w W) : Calls Tryz.prog 10 #[.string ⟨#[]⟩] W fun e w' => (∃ A c, e = .returned (.tuple #[.slice A 0 c, .int .i64 0, .int .i64 0])) ∧ Below W.heap.size W w' := by
  refine (parse_any ⟨#[]⟩ (by decide) W ((hE.below hb).more hb.size (Nat.le_refl _))).mono ?_
  rw [show parseS (⟨#[]⟩ : ByteArray).data.toList = .ok [] by kernel_rfl]
  rintro e w' ⟨h1, v, ps, rfl, h2, h3⟩
  obtain rfl : ps = [] := List.map_eq_nil_iff.1 h3
  obtain ⟨A, c, rfl, _, _, _⟩ := RowK.own_shows h2.own
  exact ⟨⟨A, c, rfl⟩, h1⟩
theorem step_no (m : Mo) (hm : mvOk m = false) : chkE ⟨0, false, [], [m]⟩ = 120 := chkE_no (fun h => by have := h.2.2.2 m (by simp); rw [hm] at this; cases this)
theorem many_no : allOk (List.replicate 2001 stZ) = false := by
  rw [Bool.eq_false_iff]
  intro h
  have := (allOk_parts h).1
  rw [List.length_replicate] at this
  omega
set_option maxRecDepth 100000 in
set_option maxHeartbeats 16000000 in
theorem names_law (w : World) (hE : Env w.heap.size w) : Calls Tryz.prog 3 #[] w fun e w' => e = .returned (.bool true) ∧ Below w.heap.size w w' := by
  have HE := Lib.hid hE
  have HB := Lib.hid (Below.refl w.heap.size w)
  clear hE
  go_enter Tryz.func3, Tryz.ntmps3
  go_wp2_with fail
  refine (wrong1 ⟨#[115, 116, 101, 112, 32, 48, 53, 10]⟩ (by decide) wr_0 HE.out HB.out).mono ?_
  rintro e wx ⟨rfl, hb⟩
  have HB := Lib.hid (HB.out.trans (hb.mono HB.out.size))
  clear hb
  go_wp2_with fail
  refine (wrong1 ⟨#[115, 116, 101, 112, 32, 49]⟩ (by decide) wr_1 HE.out HB.out).mono ?_
  rintro e wx ⟨rfl, hb⟩
  have HB := Lib.hid (HB.out.trans (hb.mono HB.out.size))
  clear hb
  go_wp2_with fail
  refine (wrong1 ⟨#[115, 116, 101, 112, 32, 49, 32, 112, 117, 116, 32, 48, 32, 54, 10]⟩ (by decide) wr_2 HE.out HB.out).mono ?_
  rintro e wx ⟨rfl, hb⟩
  have HB := Lib.hid (HB.out.trans (hb.mono HB.out.size))
  clear hb
  go_wp2_with fail
  refine (wrong2 ⟨#[115, 116, 101, 112, 32, 49, 10, 120, 10]⟩ (by decide) wr_3 HE.out HB.out).mono ?_
  rintro e wx ⟨rfl, hb⟩
  have HB := Lib.hid (HB.out.trans (hb.mono HB.out.size))
  clear hb
  go_wp2_with fail
  refine (wrong1 ⟨#[115, 116, 101, 112, 32, 49, 32, 112, 117, 116, 32, 48, 10]⟩ (by decide) wr_4 HE.out HB.out).mono ?_
  rintro e wx ⟨rfl, hb⟩
  have HB := Lib.hid (HB.out.trans (hb.mono HB.out.size))
  clear hb
  go_wp2_with fail
  refine (wrong1 ⟨#[115, 116, 101, 112, 32, 49, 32, 111, 114, 100, 101, 114, 10]⟩ (by decide) wr_5 HE.out HB.out).mono ?_
  rintro e wx ⟨rfl, hb⟩
  have HB := Lib.hid (HB.out.trans (hb.mono HB.out.size))
  clear hb
  go_wp2_with fail
  refine (wrong1 ⟨#[115, 116, 101, 112, 32, 49, 32, 111, 114, 100, 101, 114, 32, 49, 48, 48, 48, 10]⟩ (by decide) wr_6 HE.out HB.out).mono ?_
  rintro e wx ⟨rfl, hb⟩
  have HB := Lib.hid (HB.out.trans (hb.mono HB.out.size))
  clear hb
  go_wp2_with fail
  refine (wrong1 ⟨#[115, 116, 101, 112, 32, 49, 32, 32, 105, 110, 116, 114, 10]⟩ (by decide) wr_7 HE.out HB.out).mono ?_
  rintro e wx ⟨rfl, hb⟩
  have HB := Lib.hid (HB.out.trans (hb.mono HB.out.size))
  clear hb
  go_wp2_with fail
  refine (wrong1 ⟨#[115, 116, 101, 112, 32, 49, 32, 115, 104, 117, 116, 32, 48, 32, 53, 10]⟩ (by decide) wr_8 HE.out HB.out).mono ?_
  rintro e wx ⟨rfl, hb⟩
  have HB := Lib.hid (HB.out.trans (hb.mono HB.out.size))
  clear hb
  go_wp2_with fail
  refine (wrong1 ⟨#[115, 116, 101, 112, 32, 49, 56, 52, 52, 54, 55, 52, 52, 48, 55, 51, 55, 48, 57, 53, 53, 49, 54, 49, 54, 10]⟩ (by decide) wr_9 HE.out HB.out).mono ?_
  rintro e wx ⟨rfl, hb⟩
  have HB := Lib.hid (HB.out.trans (hb.mono HB.out.size))
  clear hb
  go_wp2_with fail
  refine (wrong1 ⟨#[115, 116, 101, 112, 32, 49, 32, 112, 117, 116, 32, 48, 32, 65, 66, 10]⟩ (by decide) wr_10 HE.out HB.out).mono ?_
  rintro e wx ⟨rfl, hb⟩
  have HB := Lib.hid (HB.out.trans (hb.mono HB.out.size))
  clear hb
  go_wp2_with fail
  refine (wrong1 ⟨#[10]⟩ (by decide) wr_11 HE.out HB.out).mono ?_
  rintro e wx ⟨rfl, hb⟩
  have HB := Lib.hid (HB.out.trans (hb.mono HB.out.size))
  clear hb
  have HM := Lib.hid (wM_src wx)
  have HBM := Lib.hid (HB.out.trans (HM.out.2.mono HB.out.size))
  have km := mk_bytes
  have HO := Lib.hid (od_new (B := w.heap.size) (W := w) (w := wM wx) HBM.out.size HBM.out (D := fun _ => False) (fun _ e => e.elim))
  go_wp2_with fail
  refine (HO.out).mono ?_
  rintro e w2 ⟨p, rfl, ho, hb2⟩
  have HO2 := Lib.hid (And.intro ho hb2)
  clear ho hb2 km HO
  have HMS := Lib.hid (HM.out.1.below HO2.out.2)
  go_wp2_with fail
  go_loopw [3, 73] (fun t i wr => ∃ j : Nat, j ≤ 8 ∧ i = .int .i64 (j : Int) ∧ t = .bool true ∧ Hid (Below w2.heap.size w2 wr)) (fun _ i _ => 8 - (intOf i).toNat)
  case atStart => exact ⟨0, by omega, rfl, rfl, Lib.hid (Below.refl _ _)⟩
  case round =>
  obtain ⟨j, hj, rfl, rfl, HL⟩ := hrel
  by_cases hlt : j < 8
  · have hlt' : (j : Int) < 8 := by omega
    have hsrc := HMS.out.below (HL.out.mono HO2.out.2.size)
    obtain ⟨g, off, dv, e1, hg, hg2, ⟨q0, q1, q2, q3⟩, hd⟩ := SrcM.at_ hsrc (k := j) hlt
    injection e1 with e1
    injection e1 with e1 e2 _
    subst e1 e2
    obtain ⟨m, hm⟩ : ∃ m, bads[j]'hlt = m := ⟨_, rfl⟩
    have hno := bads_no j hlt
    rw [hm] at hno q0 q1 q2 hd
    obtain ⟨A, c, rfl, _, _, _⟩ := hd.form
    rw [Nat.zero_add] at q0 q1 q2 q3
    have hTF : TabF wr := HE.out.f.below ((HO2.out.1.below HL.out).bel)
    have HMK := Lib.hid (make_bad m _ ⟨p, 0, none⟩ wr hTF hd hno)
    have hone := SrcM.one hsrc (k := j) hlt
    rw [hm, Nat.zero_add] at hone
    have HCK := Lib.hid (fun (X : World) (hX : Below wr.heap.size wr X) => check_any ⟨0, false, [], [m]⟩ (.slice none 0 0) _ X (hTF.below hX) ⟨Sh.nil _ _, (hone.below (hX.mono (Nat.le_trans HO2.out.2.size HL.out.size))).weak (fun g _ h => Nat.lt_of_lt_of_le h (Nat.le_trans (Nat.le_trans HO2.out.2.size HL.out.size) hX.size))⟩)
    have hck := step_no m hno
    rw [hck] at HCK
    have kc := cut_mv (wx.heap.size + 1) j hlt
    have hjw : IntKind.i64.wrap ((j : Int) + 1) = (j : Int) + 1 := IntWalk.i64_in _ (by omega)
    clear hsrc hd hno hone hck hTF hm hg
    go_wp2_with (first
      | (go_at_call 8; refine HMK.out.mono ?_; rintro e w3 ⟨rfl, hb3⟩; have HB3 := Lib.hid hb3; clear hb3)
      | (go_at_call 9; refine (HCK.out _ HB3.out).mono ?_; rintro e w4 ⟨rfl, hb4⟩; have HB4 := Lib.hid (HB3.out.trans (hb4.mono HB3.out.size)); clear hb4))
    go_roundw
    case rel => exact ⟨j + 1, by omega, by go_num, rfl, Lib.hid (HL.out.trans (HB4.out.mono HL.out.size))⟩
    case measure => simp [intOf] <;> omega
  obtain rfl : j = 8 := by omega
  have HO3 := Lib.hid (HO2.out.1.below HL.out)
  go_wp2_with fail
  refine (parse_none HE.out HO3.out.bel).mono ?_
  rintro e w3 ⟨⟨Ap, cp, rfl⟩, hb⟩
  have HO4 := Lib.hid (HO3.out.below hb)
  clear hb
  have HNW := Lib.hid (snew_any [] (.slice none 0 0) w3 (HE.out.f.below HO4.out.bel) ⟨[], rfl, Sh.nil _ _, fun q hq => by cases hq⟩ (by decide))
  go_wp2_with fail
  refine (HNW.out).mono ?_
  rintro e w4 ⟨kb, sb, D, rfl, h1, h2, h3, h4, h5, hb⟩
  have HO5 := Lib.hid (HO4.out.plus hb)
  have HS1 := Lib.hid (sleep1 (hv := .nilFunc) (b := false) h1 h2 HO5.out (fun b hb => Or.inr (h3 b hb)) (fun b hb => Nat.le_trans HO4.out.base (h3 b hb).1) ⟨Or.inr ⟨h4, h1.lt⟩, h5⟩ (fun x hx => by cases hx) (by decide) (Or.inl rfl) ans_nil true 9 (by decide) (slE1 Ws.new))
  have HD := Lib.hid (And.intro (And.intro (fun b hb => (Or.inr (h3 b hb) : (False ∨ (w3.heap.size ≤ b ∧ b < w4.heap.size)))) (fun b hb => Nat.le_trans HO4.out.base (h3 b hb).1)) (And.intro (Or.inr ⟨h4, h1.lt⟩ : (False ∨ (w3.heap.size ≤ sb ∧ sb < w4.heap.size))) h5))
  clear h1 h2 h3 h4 h5 hb HNW
  go_wp2_with fail
  refine (HS1.out).mono ?_
  rintro e w5 ⟨rfl, h2, ho, _, h1⟩
  have HS2 := Lib.hid (sleep1 (hv := .nilFunc) (b := false) h1 h2 ho HD.out.1.1 HD.out.1.2 HD.out.2 (fun x hx => by cases hx) (by decide) (Or.inl rfl) ans_nil false 9 (by decide) (slE2 Ws.new))
  clear h1 h2 ho HS1
  go_wp2_with fail
  refine (HS2.out).mono ?_
  rintro e w6 ⟨rfl, h2, ho, _, h1⟩
  have HS3 := Lib.hid (sleep1 (hv := .func (.func 13) #[] #[]) (b := true) h1 h2 ho HD.out.1.1 HD.out.1.2 HD.out.2 (fun x hx => by cases hx) (by decide) (Or.inr ⟨_, _, _, rfl⟩) ans_true false 9 (by decide) (slE3 (Ws.new.pass 9)))
  clear h1 h2 ho HS2
  go_wp2_with fail
  refine (HS3.out).mono ?_
  rintro e w7 ⟨rfl, h2, ho, _, h1⟩
  have HO7 := Lib.hid (And.intro ho h1)
  clear h1 h2 ho HS3
  have ks := mk_steps
  have HNB := Lib.hid (new_bad (List.replicate 2001 stZ) (.slice (some ⟨w7.heap.size, 0, none⟩) 2001 2001) (w7.alloc (.cells (madeCells #[.int .u64 0, .bool false, .slice none 0 0, .slice none 0 0] 8004) 36)) (HE.out.f.below (HO7.out.1.alloc _).bel) (made_src w7) many_no)
  go_wp2_with fail
  refine (HNB.out).mono ?_
  rintro e w8 ⟨rfl, hb⟩
  have HB8 := Lib.hid (((Below.refl w7.heap.size w7).alloc (Nat.le_refl _) (.cells (madeCells #[.int .u64 0, .bool false, .slice none 0 0, .slice none 0 0] 8004) 36)).trans (hb.mono (by simp)))
  clear hb ks HNB
  have HO8 := Lib.hid (And.intro (HO7.out.1.below HB8.out) (HO7.out.2.same (HB8.out.block _ HO7.out.2.lt)))
  have HTN := Lib.hid (text_no [⟨0, false, [-1], []⟩] (.slice (some ⟨w8.heap.size + 1, 0, none⟩) 1 1) (wO w8 0 false (-1)) ((HE.out.below (HO8.out.1.below (wO_src w8 0 false (-1)).2).bel).more (HO8.out.1.below (wO_src w8 0 false (-1)).2).bel.size (Nat.le_refl _)) (wO_src w8 0 false (-1)).1 (by decide))
  go_wp2_with fail
  refine (HTN.out).mono ?_
  rintro e w9 ⟨rfl, hb⟩
  have HB9 := Lib.hid ((wO_src w8 0 false (-1)).2.trans (hb.mono (wO_src w8 0 false (-1)).2.size))
  clear hb HTN
  have HO9 := Lib.hid (And.intro (HO8.out.1.below HB9.out) (HO8.out.2.same (HB9.out.block _ HO8.out.2.lt)))
  have HMN := Lib.hid (make_none ⟨7, 0, 0, []⟩ none 0 0 w9)
  go_wp2_with fail
  refine (HMN.out).mono ?_
  rintro e w10 ⟨rfl, hb⟩
  have HO10 := Lib.hid (And.intro (HO9.out.1.below hb) (HO9.out.2.same (hb.block _ HO9.out.2.lt)))
  clear hb HMN
  have HNW := Lib.hid (snew_any [⟨2, true, [7], []⟩] (.slice (some ⟨w10.heap.size + 1, 0, none⟩) 1 1) (wO w10 2 true 7) (HE.out.f.below (HO10.out.1.below (wO_src w10 2 true 7).2).bel) (wO_src w10 2 true 7).1 (by decide))
  go_wp2_with fail
  refine (HNW.out).mono ?_
  rintro e w11 ⟨kb2, sb2, D2, rfl, h1, h2, h3, h4, h5, hb⟩
  have hbo := (HO10.out.1.below (wO_src w10 2 true 7).2)
  have HO11 := Lib.hid (And.intro (hbo.plus hb) ((HO10.out.2.same ((wO_src w10 2 true 7).2.block _ HO10.out.2.lt)).same (hb.block _ (Nat.lt_of_lt_of_le HO10.out.2.lt (wO_src w10 2 true 7).2.size))))
  have hsb : ¬ D2 sb := fun e => by have h6 := (h3 sb e).1; have h7 := HO10.out.2.lt; have h8 := (wO_src w10 2 true 7).2.size; omega
  have HS4 := Lib.hid (sleep1 (hv := .nilFunc) (b := false) h1 h2 HO11.out.1 (fun b hb => Or.inr (h3 b hb)) (fun b hb => Nat.le_trans hbo.base (h3 b hb).1) ⟨Or.inr ⟨h4, h1.lt⟩, h5⟩ (fun x hx => by obtain rfl := List.mem_singleton.1 hx; simp) (by decide) (Or.inl rfl) ans_nil true 9 (by decide) (slE4 (Ws.new.pass 9)))
  have HX := Lib.hid (And.intro hsb h3)
  clear h1 h2 h3 h4 h5 hb hbo hsb HNW
  go_wp2_with fail
  refine (HS4.out).mono ?_
  rintro e w12 ⟨rfl, h2, ho, hk, h1⟩
  have HZ := Lib.hid (And.intro h1 (And.intro h2 (And.intro ho (HO11.out.2.same (hk sb (Or.inl HD.out.2.1) HX.out.1)))))
  clear h1 h2 ho hk HS4
  have HAL := Lib.hid (malive_any w12 ((HE.out.below HZ.out.2.2.1.bel).more HZ.out.2.2.1.bel.size (Nat.le_refl _)))
  go_wp2_with fail
  refine (HAL.out).mono ?_
  rintro e w13 ⟨rfl, hb⟩
  have HOZ := Lib.hid (HZ.out.2.2.1.below hb)
  have HKZ := Lib.hid (And.intro (HZ.out.1.same (hb.block _ HZ.out.1.lt)) (And.intro (HZ.out.2.1.same (fun b h => hb.block b (HZ.out.2.2.1.lt (Or.inr (HX.out.2 b h))))) (HZ.out.2.2.2.same (hb.block _ HZ.out.2.2.2.lt))))
  have hnw := HOZ.out.now
  rw [show ((Ws.new.pass 9).pass 2).now = 11 from rfl] at hnw
  have HNW := Lib.hid hnw
  have HR1 := Lib.hid (sorder_any HKZ.out.1 HKZ.out.2.1 (by decide))
  clear hb hnw HAL
  go_wp2_with fail
  refine (HNW.out).mono ?_
  rintro e wn ⟨rfl, rfl⟩
  clear HNW
  go_wp2_with fail
  refine (HR1.out).mono ?_
  rintro e w14 ⟨v1, rfl, hv, hb⟩
  obtain ⟨A1, c1, rfl, _, _, _⟩ := RowK.own_shows hv
  have HB14 := Lib.hid hb
  have HR2 := Lib.hid (sorder_any (HKZ.out.1.same (hb.block _ HKZ.out.1.lt)) (HKZ.out.2.1.same (fun b h => hb.block b (HOZ.out.lt (Or.inr (HX.out.2 b h))))) (by decide))
  clear hv hb HR1
  go_wp2_with fail
  refine (HR2.out).mono ?_
  rintro e w15 ⟨v2, rfl, hv, hb⟩
  obtain ⟨A2, c2, rfl, hsh, _, _⟩ := RowK.own_shows hv
  obtain ⟨g, off, rfl, hg, hlies⟩ := hsh (by simp)
  have k0 : w15.cell? ⟨g, off, none⟩ = some (.int .i64 7) := hlies 0 7 rfl 0 (by decide)
  have HB15 := Lib.hid (HB14.out.trans (hb.mono HB14.out.size))
  clear hv hb HR2 hsh hlies
  have HSN := Lib.hid (sleep_none (some ⟨p, 0, none⟩) 1 w15)
  go_wp2_with fail
  refine (HSN.out).mono ?_
  rintro e w16 ⟨rfl, hb⟩
  have HB16 := Lib.hid (HB15.out.trans (hb.mono HB15.out.size))
  clear hb HSN k0 hg
  have HSW := Lib.hid (sleep_nowhere (HKZ.out.2.2.same (HB16.out.block _ HKZ.out.2.2.lt)) 1)
  go_wp2_with fail
  refine (HSW.out).mono ?_
  rintro e w17 ⟨rfl, hb⟩
  have HB17 := Lib.hid (HB16.out.trans (hb.mono HB16.out.size))
  clear hb HSW
  go_wp2_with fail
  refine (left_none w17).mono ?_
  rintro e wl ⟨rfl, rfl⟩
  go_wp2_with fail
  refine (order_none w17).mono ?_
  rintro e wl2 ⟨rfl, rfl⟩
  go_wp2_with fail
  go_ret
  exact ⟨rfl, HOZ.out.bel.trans (HB17.out.mono HOZ.out.base)⟩
end Go.Proofs.YtlephnfepofbbaaGreatDoor
