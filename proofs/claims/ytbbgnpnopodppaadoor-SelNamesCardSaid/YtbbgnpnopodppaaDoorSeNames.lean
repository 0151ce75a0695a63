/-
  The chapter's examples.
-/
import Derived.Test.YtbbgnpnopodppaaDoorSeFew
namespace Go.Proofs.YtbbgnpnopodppaaDoor
open Go.RowKit Go.Shelf Go.Maps Go.ChangeMaps

theorem topK (w : World) (a c : Nat) (z : Int) (ha : a < 4294967296) (hc : c < 4294967296) (hz : max (Fs.topI a 0) (Fs.topI c 0) + 1 = z) : Calls Tryd.prog 11 #[setV a 0, setV c 0] w (RetV w (.int .i64 z)) := (topS_any a 0 c 0 w ha (by decide) hc (by decide)).mono fun e w' h => ⟨h.1.trans (by rw [hz]), h.2⟩
theorem Od.holdK {B : Nat} {W w w' : World} {p : Nat} {S : Ws} {N : Nat} {D : Nat → Prop} (h : Od B W p S N D w) (hT : Fs.Tab w ∧ 0 < w.heap.size) (hb : Below w.heap.size w w') (top : Int) {a b c d : Nat} (hl : a < 4294967296 ∧ b < 4294967296 ∧ c < 4294967296 ∧ d < 4294967296) {A : Acc} {n e : Nat} (hr : selP S.rdyAt top a b c d = (A, n, e)) (q : Bool) (hq : (((e : Int) != 0) || decide (0 < (n : Int))) = q) :
    Calls Tryd.prog 12 #[.pointer (some ⟨p, 0, none⟩), .int .i64 top, setV a b, setV c d] w' (RetV w' (.bool q)) := by
  have hT2 := tab_below hT hb
  refine ((h.below hb).holds top hl.1 hl.2.1 hl.2.2.1 hl.2.2.2 hT2.1 hT2.2 hr).mono ?_
  rintro e w2 ⟨rfl, _, hb2⟩
  exact ⟨by rw [hq], hb2⟩
set_option maxRecDepth 100000 in
set_option maxHeartbeats 8000000 in
theorem names_law (w : World) (hT : Fs.Tab w ∧ 0 < w.heap.size) : Calls Tryd.prog 3 #[] w (RetV w (.bool true)) := by
  have HF := Lib.hid (few_any (Nat.le_refl _) (Below.refl w.heap.size w))
  have HTw := Lib.hid hT
  clear hT
  go_enter Tryd.func3, Tryd.ntmps3
  go_wp2_with fail
  refine HF.out.mono ?_
  rintro e w1 ⟨p, rfl, hO⟩
  have HC := Lib.hid (hO.closeA (M := 0) (Ws.Ok.outM (Ws.Ok.two Ws.ok_new 4 1) 4) 1 (by decide))
  clear hO
  go_wp2_with fail
  refine HC.out.mono ?_
  rintro e w2 ⟨rfl, hO, _⟩
  have HO := Lib.hid (show Od w.heap.size w p Sf1 130 (fun _ => False) w2 from hO)
  have HT := Lib.hid (tab_below HTw.out hO.bel)
  have H2 := Lib.hid (Below.refl w2.heap.size w2)
  have HW := Lib.hid hO.bel
  clear hO
  go_wp2_with fail
  refine (set2_02 _ _ (by simp)).mono ?_
  rintro e w3 ⟨rfl, hb⟩
  have H3 := Lib.hid (Below.end_ (Below.al H2.out) hb)
  clear hb
  go_wp2_with fail
  refine (set2_12 _ _ (by simp)).mono ?_
  rintro e w4 ⟨rfl, hb⟩
  have H4 := Lib.hid (Below.end_ (Below.al H3.out) hb)
  clear hb
  have HS := Lib.hid (HO.out.selK HT.out H4.out (3) (a := 5) (b := 0) (c := 6) (d := 0) (by decide) sel_b)
  go_wp2_with fail
  refine (HS.out).mono ?_
  rintro e w5 ⟨rfl, hb⟩
  have H5 := Lib.hid (Below.end_ H4.out hb)
  clear hb
  clear HS
  go_wp2_with fail
  refine (set2_02 _ _ (by simp)).mono ?_
  rintro e w6 ⟨rfl, hb⟩
  have H6 := Lib.hid (Below.end_ (Below.al (Below.al (Below.al H5.out))) hb)
  clear hb
  go_wp2_with fail
  refine (set2_12 _ _ (by simp)).mono ?_
  rintro e w7 ⟨rfl, hb⟩
  have H7 := Lib.hid (Below.end_ (Below.al H6.out) hb)
  clear hb
  have HS := Lib.hid (HO.out.selK HT.out H7.out (1) (a := 5) (b := 0) (c := 6) (d := 0) (by decide) sel_c)
  go_wp2_with fail
  refine (HS.out).mono ?_
  rintro e w8 ⟨rfl, hb⟩
  have H8 := Lib.hid (Below.end_ H7.out hb)
  clear hb
  clear HS
  go_wp2_with fail
  refine (set1_0 _ _ (by simp)).mono ?_
  rintro e w9 ⟨rfl, hb⟩
  have B6_9 := Lib.hid ((((Blk.new w8 28 #[.int .u32 1, .int .u32 0]).alloc (.cells #[.int .u32 0, .int .u32 0] 28)).alloc (.cells #[.int .i64 0] 3)).same (hb.block _ (((Blk.new w8 28 #[.int .u32 1, .int .u32 0]).alloc (.cells #[.int .u32 0, .int .u32 0] 28)).alloc (.cells #[.int .i64 0] 3)).lt))
  have B7_9 := Lib.hid (((blk_two w8 (.cells #[.int .u32 1, .int .u32 0] 28) 28 #[.int .u32 0, .int .u32 0]).alloc (.cells #[.int .i64 0] 3)).same (hb.block _ ((blk_two w8 (.cells #[.int .u32 1, .int .u32 0] 28) 28 #[.int .u32 0, .int .u32 0]).alloc (.cells #[.int .i64 0] 3)).lt))
  have k0 := B6_9.out.cell 0
  have k1 := B6_9.out.cell 1
  have k2 := B7_9.out.cell 0
  have k3 := B7_9.out.cell 1
  simp at k0 k1 k2 k3
  have l6 := B6_9.out.lt
  have l7 := B7_9.out.lt
  have H9 := Lib.hid (Below.end_ (Below.al (Below.al (Below.al H8.out))) hb)
  clear hb
  go_wp2_with fail
  clear k0 k1 k2 k3 l6 l7
  refine (set0 _).mono ?_
  rintro e w10 ⟨rfl, hb⟩
  have B6_10 := Lib.hid ((B6_9.out).same (hb.block _ (B6_9.out).lt))
  have B7_10 := Lib.hid ((B7_9.out).same (hb.block _ (B7_9.out).lt))
  have k0 := B6_10.out.cell 0
  have k1 := B6_10.out.cell 1
  have k2 := B7_10.out.cell 0
  have k3 := B7_10.out.cell 1
  simp at k0 k1 k2 k3
  have l6 := B6_10.out.lt
  have l7 := B7_10.out.lt
  have H10 := Lib.hid (Below.end_ H9.out hb)
  clear hb
  have HS := Lib.hid (HO.out.selK HT.out H10.out (65) (a := 1) (b := 0) (c := 0) (d := 0) (by decide) sel_d)
  go_wp2_with fail
  clear k0 k1 k2 k3 l6 l7
  refine (HS.out).mono ?_
  rintro e w11 ⟨rfl, hb⟩
  have B6_11 := Lib.hid ((B6_10.out).same (hb.block _ (B6_10.out).lt))
  have B7_11 := Lib.hid ((B7_10.out).same (hb.block _ (B7_10.out).lt))
  have k0 := B6_11.out.cell 0
  have k1 := B6_11.out.cell 1
  have k2 := B7_11.out.cell 0
  have k3 := B7_11.out.cell 1
  simp at k0 k1 k2 k3
  have l6 := B6_11.out.lt
  have l7 := B7_11.out.lt
  have H11 := Lib.hid (Below.end_ H10.out hb)
  clear hb
  clear HS
  go_wp2_with fail
  clear k0 k1 k2 k3 l6 l7
  refine (set1_0 _ _ (by simp)).mono ?_
  rintro e w12 ⟨rfl, hb⟩
  have B6_12 := Lib.hid (((((B6_11.out.alloc _).alloc _).alloc _)).same (hb.block _ ((((B6_11.out.alloc _).alloc _).alloc _)).lt))
  have B7_12 := Lib.hid (((((B7_11.out.alloc _).alloc _).alloc _)).same (hb.block _ ((((B7_11.out.alloc _).alloc _).alloc _)).lt))
  have k0 := B6_12.out.cell 0
  have k1 := B6_12.out.cell 1
  have k2 := B7_12.out.cell 0
  have k3 := B7_12.out.cell 1
  simp at k0 k1 k2 k3
  have l6 := B6_12.out.lt
  have l7 := B7_12.out.lt
  have H12 := Lib.hid (Below.end_ (Below.al (Below.al (Below.al H11.out))) hb)
  clear hb
  go_wp2_with fail
  clear k0 k1 k2 k3 l6 l7
  refine (set0 _).mono ?_
  rintro e w13 ⟨rfl, hb⟩
  have B6_13 := Lib.hid ((B6_12.out).same (hb.block _ (B6_12.out).lt))
  have B7_13 := Lib.hid ((B7_12.out).same (hb.block _ (B7_12.out).lt))
  have k0 := B6_13.out.cell 0
  have k1 := B6_13.out.cell 1
  have k2 := B7_13.out.cell 0
  have k3 := B7_13.out.cell 1
  simp at k0 k1 k2 k3
  have l6 := B6_13.out.lt
  have l7 := B7_13.out.lt
  have H13 := Lib.hid (Below.end_ H12.out hb)
  clear hb
  go_wp2_with fail
  clear k0 k1 k2 k3 l6 l7
  refine (select_nil _ 1 1 0 0 0).mono ?_
  rintro e w14 ⟨rfl, hb⟩
  have B6_14 := Lib.hid ((B6_13.out).same (hb.block _ (B6_13.out).lt))
  have B7_14 := Lib.hid ((B7_13.out).same (hb.block _ (B7_13.out).lt))
  have k0 := B6_14.out.cell 0
  have k1 := B6_14.out.cell 1
  have k2 := B7_14.out.cell 0
  have k3 := B7_14.out.cell 1
  simp at k0 k1 k2 k3
  have l6 := B6_14.out.lt
  have l7 := B7_14.out.lt
  have H14 := Lib.hid (Below.end_ H13.out hb)
  clear hb
  go_wp2_with fail
  clear k0 k1 k2 k3 l6 l7
  refine (set1_0 _ _ (by simp)).mono ?_
  rintro e w15 ⟨rfl, hb⟩
  have B6_15 := Lib.hid (((((B6_14.out.alloc _).alloc _).alloc _)).same (hb.block _ ((((B6_14.out.alloc _).alloc _).alloc _)).lt))
  have B7_15 := Lib.hid (((((B7_14.out.alloc _).alloc _).alloc _)).same (hb.block _ ((((B7_14.out.alloc _).alloc _).alloc _)).lt))
  have k0 := B6_15.out.cell 0
  have k1 := B6_15.out.cell 1
  have k2 := B7_15.out.cell 0
  have k3 := B7_15.out.cell 1
  simp at k0 k1 k2 k3
  have l6 := B6_15.out.lt
  have l7 := B7_15.out.lt
  have H15 := Lib.hid (Below.end_ (Below.al (Below.al (Below.al H14.out))) hb)
  clear hb
  go_wp2_with fail
  clear k0 k1 k2 k3 l6 l7
  refine (set0 _).mono ?_
  rintro e w16 ⟨rfl, hb⟩
  have B6_16 := Lib.hid ((B6_15.out).same (hb.block _ (B6_15.out).lt))
  have B7_16 := Lib.hid ((B7_15.out).same (hb.block _ (B7_15.out).lt))
  have k0 := B6_16.out.cell 0
  have k1 := B6_16.out.cell 1
  have k2 := B7_16.out.cell 0
  have k3 := B7_16.out.cell 1
  simp at k0 k1 k2 k3
  have l6 := B6_16.out.lt
  have l7 := B7_16.out.lt
  have H16 := Lib.hid (Below.end_ H15.out hb)
  clear hb
  have HS := Lib.hid (HO.out.selK HT.out H16.out (-1) (a := 1) (b := 0) (c := 0) (d := 0) (by decide) sel_e)
  go_wp2_with fail
  clear k0 k1 k2 k3 l6 l7
  refine (HS.out).mono ?_
  rintro e w17 ⟨rfl, hb⟩
  have B6_17 := Lib.hid ((B6_16.out).same (hb.block _ (B6_16.out).lt))
  have B7_17 := Lib.hid ((B7_16.out).same (hb.block _ (B7_16.out).lt))
  have k0 := B6_17.out.cell 0
  have k1 := B6_17.out.cell 1
  have k2 := B7_17.out.cell 0
  have k3 := B7_17.out.cell 1
  simp at k0 k1 k2 k3
  have l6 := B6_17.out.lt
  have l7 := B7_17.out.lt
  have H17 := Lib.hid (Below.end_ H16.out hb)
  clear hb
  clear HS
  go_wp2_with fail
  clear k0 k1 k2 k3 l6 l7
  refine (salive_any _ (tab_below HT.out (Below.al (Below.al H17.out)))).mono ?_
  rintro e w18 ⟨rfl, hb⟩
  have B6_18 := Lib.hid ((((B6_17.out.alloc _).alloc _)).same (hb.block _ (((B6_17.out.alloc _).alloc _)).lt))
  have B7_18 := Lib.hid ((((B7_17.out.alloc _).alloc _)).same (hb.block _ (((B7_17.out.alloc _).alloc _)).lt))
  have k0 := B6_18.out.cell 0
  have k1 := B6_18.out.cell 1
  have k2 := B7_18.out.cell 0
  have k3 := B7_18.out.cell 1
  simp at k0 k1 k2 k3
  have l6 := B6_18.out.lt
  have l7 := B7_18.out.lt
  have H18 := Lib.hid (Below.end_ (Below.al (Below.al H17.out)) hb)
  clear hb
  go_wp2_with fail
  clear k0 k1 k2 k3 l6 l7
  refine (has10 _).mono ?_
  rintro e w19 ⟨rfl, hb⟩
  have B6_19 := Lib.hid ((B6_18.out).same (hb.block _ (B6_18.out).lt))
  have B7_19 := Lib.hid ((B7_18.out).same (hb.block _ (B7_18.out).lt))
  have k0 := B6_19.out.cell 0
  have k1 := B6_19.out.cell 1
  have k2 := B7_19.out.cell 0
  have k3 := B7_19.out.cell 1
  simp at k0 k1 k2 k3
  have l6 := B6_19.out.lt
  have l7 := B7_19.out.lt
  have H19 := Lib.hid (Below.end_ H18.out hb)
  clear hb
  go_wp2_with fail
  clear k0 k1 k2 k3 l6 l7
  refine (len1 _).mono ?_
  rintro e w20 ⟨rfl, hb⟩
  have B6_20 := Lib.hid ((B6_19.out).same (hb.block _ (B6_19.out).lt))
  have B7_20 := Lib.hid ((B7_19.out).same (hb.block _ (B7_19.out).lt))
  have k0 := B6_20.out.cell 0
  have k1 := B6_20.out.cell 1
  have k2 := B7_20.out.cell 0
  have k3 := B7_20.out.cell 1
  simp at k0 k1 k2 k3
  have l6 := B6_20.out.lt
  have l7 := B7_20.out.lt
  have H20 := Lib.hid (Below.end_ H19.out hb)
  clear hb
  go_wp2_with fail
  clear k0 k1 k2 k3 l6 l7
  refine (len0 _).mono ?_
  rintro e w21 ⟨rfl, hb⟩
  have B6_21 := Lib.hid ((B6_20.out).same (hb.block _ (B6_20.out).lt))
  have B7_21 := Lib.hid ((B7_20.out).same (hb.block _ (B7_20.out).lt))
  have k0 := B6_21.out.cell 0
  have k1 := B6_21.out.cell 1
  have k2 := B7_21.out.cell 0
  have k3 := B7_21.out.cell 1
  simp at k0 k1 k2 k3
  have l6 := B6_21.out.lt
  have l7 := B7_21.out.lt
  have H21 := Lib.hid (Below.end_ H20.out hb)
  clear hb
  go_wp2_with fail
  clear k0 k1 k2 k3 l6 l7
  refine (set2_02 _ _ (by simp)).mono ?_
  rintro e w22 ⟨rfl, hb⟩
  have B6_22 := Lib.hid (((B6_21.out.alloc _)).same (hb.block _ ((B6_21.out.alloc _)).lt))
  have B7_22 := Lib.hid (((B7_21.out.alloc _)).same (hb.block _ ((B7_21.out.alloc _)).lt))
  have k0 := B6_22.out.cell 0
  have k1 := B6_22.out.cell 1
  have k2 := B7_22.out.cell 0
  have k3 := B7_22.out.cell 1
  simp at k0 k1 k2 k3
  have l6 := B6_22.out.lt
  have l7 := B7_22.out.lt
  have H22 := Lib.hid (Below.end_ (Below.al H21.out) hb)
  clear hb
  go_wp2_with fail
  clear k0 k1 k2 k3 l6 l7
  refine (set1_1 _ _ (by simp)).mono ?_
  rintro e w23 ⟨rfl, hb⟩
  have B6_23 := Lib.hid (((B6_22.out.alloc _)).same (hb.block _ ((B6_22.out.alloc _)).lt))
  have B7_23 := Lib.hid (((B7_22.out.alloc _)).same (hb.block _ ((B7_22.out.alloc _)).lt))
  have k0 := B6_23.out.cell 0
  have k1 := B6_23.out.cell 1
  have k2 := B7_23.out.cell 0
  have k3 := B7_23.out.cell 1
  simp at k0 k1 k2 k3
  have l6 := B6_23.out.lt
  have l7 := B7_23.out.lt
  have H23 := Lib.hid (Below.end_ (Below.al H22.out) hb)
  clear hb
  go_wp2_with fail
  clear k0 k1 k2 k3 l6 l7
  refine (topK _ 5 2 3 (by decide) (by decide) (by rfl)).mono ?_
  rintro e w24 ⟨rfl, hb⟩
  have B6_24 := Lib.hid ((B6_23.out).same (hb.block _ (B6_23.out).lt))
  have B7_24 := Lib.hid ((B7_23.out).same (hb.block _ (B7_23.out).lt))
  have k0 := B6_24.out.cell 0
  have k1 := B6_24.out.cell 1
  have k2 := B7_24.out.cell 0
  have k3 := B7_24.out.cell 1
  simp at k0 k1 k2 k3
  have l6 := B6_24.out.lt
  have l7 := B7_24.out.lt
  have H24 := Lib.hid (Below.end_ H23.out hb)
  clear hb
  go_wp2_with fail
  clear k0 k1 k2 k3 l6 l7
  refine (set0 _).mono ?_
  rintro e w25 ⟨rfl, hb⟩
  have B6_25 := Lib.hid ((B6_24.out).same (hb.block _ (B6_24.out).lt))
  have B7_25 := Lib.hid ((B7_24.out).same (hb.block _ (B7_24.out).lt))
  have k0 := B6_25.out.cell 0
  have k1 := B6_25.out.cell 1
  have k2 := B7_25.out.cell 0
  have k3 := B7_25.out.cell 1
  simp at k0 k1 k2 k3
  have l6 := B6_25.out.lt
  have l7 := B7_25.out.lt
  have H25 := Lib.hid (Below.end_ H24.out hb)
  clear hb
  go_wp2_with fail
  clear k0 k1 k2 k3 l6 l7
  refine (set0 _).mono ?_
  rintro e w26 ⟨rfl, hb⟩
  have B6_26 := Lib.hid ((B6_25.out).same (hb.block _ (B6_25.out).lt))
  have B7_26 := Lib.hid ((B7_25.out).same (hb.block _ (B7_25.out).lt))
  have k0 := B6_26.out.cell 0
  have k1 := B6_26.out.cell 1
  have k2 := B7_26.out.cell 0
  have k3 := B7_26.out.cell 1
  simp at k0 k1 k2 k3
  have l6 := B6_26.out.lt
  have l7 := B7_26.out.lt
  have H26 := Lib.hid (Below.end_ H25.out hb)
  clear hb
  go_wp2_with fail
  clear k0 k1 k2 k3 l6 l7
  refine (topK _ 0 0 0 (by decide) (by decide) (by rfl)).mono ?_
  rintro e w27 ⟨rfl, hb⟩
  have B6_27 := Lib.hid ((B6_26.out).same (hb.block _ (B6_26.out).lt))
  have B7_27 := Lib.hid ((B7_26.out).same (hb.block _ (B7_26.out).lt))
  have k0 := B6_27.out.cell 0
  have k1 := B6_27.out.cell 1
  have k2 := B7_27.out.cell 0
  have k3 := B7_27.out.cell 1
  simp at k0 k1 k2 k3
  have l6 := B6_27.out.lt
  have l7 := B7_27.out.lt
  have H27 := Lib.hid (Below.end_ H26.out hb)
  clear hb
  go_wp2_with fail
  clear k0 k1 k2 k3 l6 l7
  refine (set1_0 _ _ (by simp)).mono ?_
  rintro e w28 ⟨rfl, hb⟩
  have B6_28 := Lib.hid (((B6_27.out.alloc _)).same (hb.block _ ((B6_27.out.alloc _)).lt))
  have B7_28 := Lib.hid (((B7_27.out.alloc _)).same (hb.block _ ((B7_27.out.alloc _)).lt))
  have k0 := B6_28.out.cell 0
  have k1 := B6_28.out.cell 1
  have k2 := B7_28.out.cell 0
  have k3 := B7_28.out.cell 1
  simp at k0 k1 k2 k3
  have l6 := B6_28.out.lt
  have l7 := B7_28.out.lt
  have H28 := Lib.hid (Below.end_ (Below.al H27.out) hb)
  clear hb
  go_wp2_with fail
  clear k0 k1 k2 k3 l6 l7
  refine (set0 _).mono ?_
  rintro e w29 ⟨rfl, hb⟩
  have B6_29 := Lib.hid ((B6_28.out).same (hb.block _ (B6_28.out).lt))
  have B7_29 := Lib.hid ((B7_28.out).same (hb.block _ (B7_28.out).lt))
  have k0 := B6_29.out.cell 0
  have k1 := B6_29.out.cell 1
  have k2 := B7_29.out.cell 0
  have k3 := B7_29.out.cell 1
  simp at k0 k1 k2 k3
  have l6 := B6_29.out.lt
  have l7 := B7_29.out.lt
  have H29 := Lib.hid (Below.end_ H28.out hb)
  clear hb
  have HS := Lib.hid (HO.out.holdK HT.out H29.out 1 (a := 1) (b := 0) (c := 0) (d := 0) (by decide) sel_f true (by decide))
  go_wp2_with fail
  clear k0 k1 k2 k3 l6 l7
  refine (HS.out).mono ?_
  rintro e w30 ⟨rfl, hb⟩
  have B6_30 := Lib.hid ((B6_29.out).same (hb.block _ (B6_29.out).lt))
  have B7_30 := Lib.hid ((B7_29.out).same (hb.block _ (B7_29.out).lt))
  have k0 := B6_30.out.cell 0
  have k1 := B6_30.out.cell 1
  have k2 := B7_30.out.cell 0
  have k3 := B7_30.out.cell 1
  simp at k0 k1 k2 k3
  have l6 := B6_30.out.lt
  have l7 := B7_30.out.lt
  have H30 := Lib.hid (Below.end_ H29.out hb)
  clear hb
  clear HS
  have HF2 := Lib.hid (few_any (Nat.le_refl _) (Below.refl w30.heap.size w30))
  go_wp2_with fail
  clear k0 k1 k2 k3 l6 l7
  refine HF2.out.mono ?_
  rintro e w31 ⟨p2, rfl, hO⟩
  have HO2 := Lib.hid hO
  have H31 := Lib.hid (Below.end_ H30.out hO.bel)
  have HT2 := Lib.hid (tab_below HT.out H31.out)
  have G31 := Lib.hid (Below.refl w31.heap.size w31)
  clear hO
  go_wp2_with fail
  refine (set1_0 _ _ (by simp)).mono ?_
  rintro e w32 ⟨rfl, hb⟩
  have H32 := Lib.hid (Below.end_ (Below.al H31.out) hb)
  have HG1 := Lib.hid (Below.end_ (Below.al G31.out) hb)
  clear hb
  go_wp2_with fail
  refine (set0 _).mono ?_
  rintro e w33 ⟨rfl, hb⟩
  have H33 := Lib.hid (Below.end_ H32.out hb)
  have HG := Below.end_ HG1.out hb
  clear hb
  have HS := Lib.hid (HO2.out.holdK HT2.out (w' := w33) HG 1 (a := 1) (b := 0) (c := 0) (d := 0) (by decide) sel_g false (by decide))
  go_wp2_with fail
  refine (HS.out).mono ?_
  rintro e w34 ⟨rfl, hb⟩
  have H34 := Lib.hid (Below.end_ H33.out hb)
  clear hb
  go_wp2_with fail
  go_ret
  exact ⟨rfl, Below.end_ HW.out H34.out⟩
end Go.Proofs.YtbbgnpnopodppaaDoor
