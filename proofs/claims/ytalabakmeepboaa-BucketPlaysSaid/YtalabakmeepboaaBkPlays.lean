/-
  BucketPlays.
-/
import Derived.Test.YtalabakmeepboaaBkPl
import Derived.Deep.CutBlock
import Derived.Deep.RegionHeld3
import Derived.Deep.DeepCutAuto
namespace Go.Proofs.Ytalabakmeepboaa
open Go.RowKit

section
variable {m e b now : Int} {l : List Cal} {A : Option Addr} {c : Nat}
theorem plays_long (w : World) (h : 100 < l.length) :
    Calls Try.prog 3 #[.agg #[.int .i64 m, .int .u64 e, .int .i64 b], .int .u64 now, .slice A l.length c] w fun x w' => x = .returned (.bool true) ∧ Below w.heap.size w w' := by
  have h' : (100 : Int) < (l.length : Int) := by omega
  go_enter Try.func3, Try.ntmps3
  go_wp2_with fail
  go_ret
  exact ⟨rfl, (Below.refl _ _).alloc (Nat.le_refl _) _⟩
set_option maxRecDepth 100000 in
theorem plays_no (w : World) (h : l.length ≤ 100) (hr : rateB m e b = false) :
    Calls Try.prog 3 #[.agg #[.int .i64 m, .int .u64 e, .int .i64 b], .int .u64 now, .slice A l.length c] w fun x w' => x = .returned (.bool true) ∧ Below w.heap.size w w' := by
  have h' : (l.length : Int) ≤ 100 := by omega
  have HC := Lib.hid (fun w => check_no w hr)
  have HN := Lib.hid (fun (w : World) => new_no (now := now) w hr)
  have HRN := Lib.hid (fun (w : World) => rnew_no (now := now) w hr)
  have HR := Lib.hid (rtc_new w m e b)
  obtain ⟨d0, d1, d2, -⟩ := rtc_new w m e b
  clear hr
  go_enter Try.func3, Try.ntmps3
  go_wp2_with fail
  refine (HC.out _).mono ?_
  rintro x w1 ⟨rfl, hb⟩
  have HB := Lib.hid hb
  clear d0 d1 d2
  obtain ⟨d0, d1, d2, -⟩ := HR.out.below hb
  clear hb
  go_wp2_with fail
  refine (HN.out _).mono ?_
  rintro x w2 ⟨rfl, hb⟩
  have HB := Lib.hid (HB.out.trans (hb.mono HB.out.size))
  clear d0 d1 d2 hb
  obtain ⟨d0, d1, d2, -⟩ := HR.out.below HB.out
  go_wp2_with fail
  refine (HRN.out _).mono ?_
  rintro x w3 ⟨rfl, hb⟩
  have HB := Lib.hid (HB.out.trans (hb.mono HB.out.size))
  clear d0 d1 d2 hb
  go_wp2_with fail
  go_ret
  exact ⟨rfl, (end_of HB.out).alloc (end_of HB.out).size _⟩

set_option maxHeartbeats 4000000 in
set_option maxRecDepth 100000 in
theorem plays_yes (w : World) (h : l.length ≤ 100) (hn : U now) (hr : rateB m e b = true) (hA : ArgOps w A l) :
    Calls Try.prog 3 #[.agg #[.int .i64 m, .int .u64 e, .int .i64 b], .int .u64 now, .slice A l.length c] w fun x w' => x = .returned (.bool true) ∧ Below w.heap.size w w' := by
  have h' : (l.length : Int) ≤ 100 := by omega
  have HC := Lib.hid (fun w => check_yes w hr)
  have HN := Lib.hid (fun (w : World) => new_yes (now := now) w hr hn)
  have HRN := Lib.hid (fun (w : World) => rnew_yes (now := now) w hr)
  have HR := Lib.hid (rtc_new w m e b)
  have HO := Lib.hid (S.Ok.fresh hr hn)
  have HA := Lib.hid hA
  obtain ⟨d0, d1, d2, -⟩ := rtc_new w m e b
  clear hr hA hn
  go_enter Try.func3, Try.ntmps3
  go_wp2_with fail
  refine (HC.out _).mono ?_
  rintro x w1 ⟨rfl, hb⟩
  have HB := Lib.hid hb
  clear d0 d1 d2
  obtain ⟨d0, d1, d2, -⟩ := HR.out.below hb
  clear hb
  go_wp2_with fail
  refine (HN.out _).mono ?_
  rintro x w2 hN
  obtain ⟨k, rfl, TT⟩ := Ob.made2 HB.out hN
  clear d0 d1 d2
  obtain ⟨d0, d1, d2, -⟩ := HR.out.below TT.bel
  have HT := Lib.hid TT
  clear hN TT
  go_wp2_with fail
  refine (HRN.out _).mono ?_
  rintro x w3 ⟨rfl, hb⟩
  have T3 := HT.out.below hb
  have hP : P2 w (w3.alloc (.cells #[.int .i64 m, .int .i64 b, .int .u64 e, .int .i64 b, .int .u64 now] 32)) k w3.heap.size (S.fresh m e b now) (S.fresh m e b now) :=
    ⟨T3.a.alloc _, ⟨Blk.new _ _ _, HO.out⟩, by have := T3.a.lt; omega, by have := T3.hk; simp at this; omega, by have := T3.a.lt; have := T3.hk; simp at this; omega, (end_of T3.bel).alloc (end_of T3.bel).size _⟩
  obtain ⟨r, er⟩ : ∃ r, r = w3.heap.size := ⟨_, rfl⟩
  rw [← er] at hP
  have ER := Lib.hid er
  have HP := Lib.hid hP
  clear d0 d1 d2 hb T3 hP er
  go_wp2_with fail
  rw [← ER.out]
  go_loopw [12] (fun i wr => ∃ q : Nat, i = .int .i64 (q : Int) ∧ q ≤ l.length ∧ ∃ s, P2 w wr k r s s) (fun i _ => l.length - (intOf i).toNat)
  case atStart => exact ⟨0, rfl, Nat.zero_le _, _, HP.out⟩
  case round =>
    obtain ⟨q, rfl, hq, s, hS⟩ := hrel
    by_cases hlt : q < l.length
    · obtain ⟨bb, off, x, rfl, hbl, hz, hok, x0, x1, x2, x3, x4, x5⟩ := HA.out.at_ hS.bel hlt
      have hX := Px.new hS x
      have HO := Lib.hid hok
      have b0 : (0 : Int) ≤ (q : Int) := by omega
      have b1 : (q : Int) < (l.length : Int) := by omega
      obtain ⟨xk, exk⟩ : ∃ xk, xk = wr.heap.size := ⟨_, rfl⟩
      obtain ⟨W, eW⟩ : ∃ W, W = wr.alloc (.cells (encC x) 36) := ⟨_, rfl⟩
      rw [← exk, ← eW] at hX
      have HX := Lib.hid (show Px w W k r xk x s s from hX)
      unfold encC at eW
      obtain ⟨kd, ekd⟩ : ∃ kd, kd = x.k := ⟨_, rfl⟩
      have EK := Lib.hid ekd
      have c0 : W.cell? ⟨xk, 0, none⟩ = some (.int .i64 x.k) := HX.out.X.cell 0
      rw [eW, exk] at c0
      rw [← ekd] at c0 x0 eW
      have EW := Lib.hid (And.intro exk eW)
      clear ekd exk eW hX hz hok hS
      go_upto_block 2 with fail
      rw [← EW.out.1, ← EW.out.2]
      clear c0
      have c0 : W.cell? ⟨xk, 0, none⟩ = some (.int .i64 kd) := (HX.out.X.cell 0).trans (by rw [EK.out]; rfl)
      have cl := HX.out.X.lt
      go_cut [14] (fun s14 wx => s14 = .bool true ∧ PlMid w k r xk x wx)
      case first =>
        have hE := HX.out.drew
        by_cases k1 : kd = 1
        · have HP := Lib.hid (hE.take HO.out)
          subst k1
          skip
          go_wp2_with fail
          go_region_held3 (fun W' => W'.cell? ⟨xk, 1, none⟩ = some (.int .u64 x.t) ∧ W'.cell? ⟨xk, 2, none⟩ = some (.int .i64 x.n) ∧ W'.cell? ⟨xk, 3, none⟩ = some (.int .i64 x.m) ∧ W'.cell? ⟨xk, 4, none⟩ = some (.int .u64 x.e) ∧ W'.cell? ⟨xk, 5, none⟩ = some (.int .i64 x.b))
            (exact hE.cells)
            (first
              | (go_at_call 12; refine HP.out.mono ?_; rintro e w3 ⟨rfl, hE⟩; have HQ := Lib.hid (hE.rtake HO.out))
              | (go_at_call 13; refine HQ.out.mono ?_; rintro e w4 ⟨rfl, hE⟩))
          have H4 := Lib.hid (show PlMid w k r xk x w4 from ⟨_, hE⟩)
          clear hE
          go_wp2_with fail
          go_meet
          case rel => exact ⟨by simp, H4.out⟩
        have n1 : (kd == 1) = false := by simpa using k1
        by_cases k2 : kd = 2
        · have HP := Lib.hid (hE.bor HO.out)
          subst k2
          clear k1
          go_wp2_with fail
          go_region_held3 (fun W' => W'.cell? ⟨xk, 1, none⟩ = some (.int .u64 x.t) ∧ W'.cell? ⟨xk, 2, none⟩ = some (.int .i64 x.n) ∧ W'.cell? ⟨xk, 3, none⟩ = some (.int .i64 x.m) ∧ W'.cell? ⟨xk, 4, none⟩ = some (.int .u64 x.e) ∧ W'.cell? ⟨xk, 5, none⟩ = some (.int .i64 x.b))
            (exact hE.cells)
            (first
              | (go_at_call 14; refine HP.out.mono ?_; rintro e w3 ⟨rfl, hE⟩; have HQ := Lib.hid (hE.rbor HO.out))
              | (go_at_call 15; refine HQ.out.mono ?_; rintro e w4 ⟨rfl, hE⟩))
          have H4 := Lib.hid (show PlMid w k r xk x w4 from ⟨_, hE⟩)
          clear hE
          go_wp2_with fail
          go_meet
          case rel => exact ⟨by simp, H4.out⟩
        have n2 : (kd == 2) = false := by simpa using k2
        by_cases k3 : kd = 3
        · have HP := Lib.hid (hE.when_ HO.out)
          subst k3
          clear k1 k2
          go_wp2_with fail
          go_region_held3 (fun W' => W'.cell? ⟨xk, 1, none⟩ = some (.int .u64 x.t) ∧ W'.cell? ⟨xk, 2, none⟩ = some (.int .i64 x.n) ∧ W'.cell? ⟨xk, 3, none⟩ = some (.int .i64 x.m) ∧ W'.cell? ⟨xk, 4, none⟩ = some (.int .u64 x.e) ∧ W'.cell? ⟨xk, 5, none⟩ = some (.int .i64 x.b))
            (exact hE.cells)
            (first
              | (go_at_call 16; refine HP.out.mono ?_; rintro e w3 ⟨rfl, hE⟩; have HQ := Lib.hid (hE.rwhen HO.out))
              | (go_at_call 17; refine HQ.out.mono ?_; rintro e w4 ⟨rfl, hE⟩))
          have H4 := Lib.hid (show PlMid w k r xk x w4 from ⟨_, hE⟩)
          clear hE
          go_wp2_with fail
          go_meet
          case rel => exact ⟨by simp, H4.out⟩
        have n3 : (kd == 3) = false := by simpa using k3
        by_cases k4 : kd = 4
        · have HP := Lib.hid (hE.set_ HO.out)
          subst k4
          clear k1 k2 k3
          go_wp2_with fail
          go_region_held3 (fun W' => W'.cell? ⟨xk, 1, none⟩ = some (.int .u64 x.t) ∧ W'.cell? ⟨xk, 2, none⟩ = some (.int .i64 x.n) ∧ W'.cell? ⟨xk, 3, none⟩ = some (.int .i64 x.m) ∧ W'.cell? ⟨xk, 4, none⟩ = some (.int .u64 x.e) ∧ W'.cell? ⟨xk, 5, none⟩ = some (.int .i64 x.b))
            (exact hE.cells)
            (first
              | (go_at_call 18; refine HP.out.mono ?_; rintro e w3 ⟨rfl, hE⟩; have HQ := Lib.hid (hE.rset HO.out))
              | (go_at_call 19; refine HQ.out.mono ?_; rintro e w4 ⟨rfl, hE⟩))
          have H4 := Lib.hid (show PlMid w k r xk x w4 from ⟨_, hE⟩)
          clear hE
          go_wp2_with fail
          go_meet
          case rel => exact ⟨by simp, H4.out⟩
        have n4 : (kd == 4) = false := by simpa using k4
        have H3 := Lib.hid (show PlMid w k r xk x W from ⟨_, HX.out⟩)
        clear k1 k2 k3 k4 hE
        go_wp2_with fail
        go_meet
        case rel => exact ⟨rfl, H3.out⟩
      case rest =>
        obtain ⟨rfl, s', hX'⟩ := hcut
        have HCm := Lib.hid (hX'.comes HO.out)
        have c1 := hX'.cells.1
        have cl' := hX'.X.lt
        clear c0 cl hX' HX EW x0 x1 x2 x3 x4 x5
        go_wp2_with fail
        refine HCm.out.mono ?_
        rintro e w5 ⟨rfl, hP5⟩
        obtain ⟨t', et'⟩ : ∃ t', t' = (s'.pass x.t).t := ⟨_, rfl⟩
        have HT' := Lib.hid et'
        have hE := hP5.drew
        have HHv := hE.have_ HO.out
        rw [← et'] at HHv
        have HHv := Lib.hid HHv
        clear c1 cl' hP5 et'
        go_wp2_with fail
        go_region_held3 (fun W' => W'.cell? ⟨xk, 1, none⟩ = some (.int .u64 x.t) ∧ W'.cell? ⟨r, 3, none⟩ = some (.int .i64 t'))
          (exact ⟨hE.cells.1, (hE.p.b.blk.cell 3).trans (by rw [HT'.out]; rfl)⟩)
          (first | (go_at_call 21; refine HHv.out.mono ?_; rintro e w6 ⟨rfl, hE⟩))
        have H6 := Lib.hid (show P2 w w6 k r (s'.pass x.t) (s'.pass x.t) from hE.p)
        clear hE
        go_wp2_with fail
        go_roundw
        case rel => exact ⟨q + 1, by go_num, by omega, _, H6.out⟩
        case measure => simp [intOf]; omega
    · obtain rfl : q = l.length := by omega
      have b1 : ¬ ((l.length : Int) < (l.length : Int)) := by omega
      have HE := Lib.hid hS.bel
      clear hS
      go_wp2_with fail
      go_ret
      exact ⟨rfl, HE.out⟩
theorem plays_law (w : World) (hn : U now) (hA : ArgOps w A l) :
    Calls Try.prog 3 #[.agg #[.int .i64 m, .int .u64 e, .int .i64 b], .int .u64 now, .slice A l.length c] w fun x w' => x = .returned (.bool true) ∧ Below w.heap.size w w' := by
  by_cases h : l.length ≤ 100
  · cases hr : rateB m e b with
    | true => exact plays_yes w h hn hr hA
    | false => exact plays_no w h hr
  · exact plays_long w (by omega)
end
end Go.Proofs.Ytalabakmeepboaa
