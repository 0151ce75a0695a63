/-
  queue.sink: the item at a place goes down till it stands ahead of those below it.
-/
import Derived.Test.YtncdohbdmpfefaaHpRise
import Derived.Deep.DeepCutAuto
import Derived.Deep.CutBlock
import Derived.BigQuiet
namespace Go.Proofs.Ytncdohbdmpfefaa
open Go.RowKit Go.Maps Go.ChangeMaps Go.Sort

/-- While x sinks, now at k: the row holds P', but that x belongs at k. -/
def SinkRel (w : World) (B q m N : Nat) (v : Value) (P P' : List It) (x : It) (k : Nat) (wr : World) : Prop :=
  ∃ f', Qst wr B q m v P' f' N ∧ P'.length = P.length ∧ (P'.set k x).Perm P ∧ PlacesBut (P'.set k x) k f' ∧ Sinking (P'.set k x) k ∧ Kept (fun k => k = m ∨ v.ownBlock = some k) w wr ∧
    Blk wr w.heap.size 44 #[.int .i64 x.id, .int .u64 x.d, .int .u64 x.n] ∧ x.Ok ∧ k < P.length

section
variable {w wr : World} {B q m N : Nat} {v : Value} {P P' : List It} {k : Nat} {x : It}
theorem sink_grow (h : SinkRel w B q m N v P P' x k wr) (n : Nat) (os : Array Obj) : SinkRel w B q m N v P P' x k (grow (wr.drewN n) os) := by
  obtain ⟨f', hQ, hlP, hperm, hpb, hris, hkw, hbx, r⟩ := h
  have hk : Kept (fun _ => False) wr (grow (wr.drewN n) os) := (Kept.refl _ wr).grow n os
  exact ⟨f', hQ.kept hk (fun _ _ e => e), hlP, hperm, hpb, hris, hkw.grow n os, hbx.kept hk (fun e => e), r⟩

/-- The child of k that stands ahead of all of them. -/
def Child (P' : List It) (k c : Nat) : Prop := 0 < c ∧ c < P'.length ∧ up c = k ∧ ∀ d, 0 < d → d < P'.length → up d = k → Le (itAt P' c) (itAt P' d)

theorem child_one (P' : List It) (k : Nat) (h1 : 2 * k + 1 < P'.length) (h2 : ¬ 2 * k + 2 < P'.length) : Child P' k (2 * k + 1) :=
  ⟨by omega, h1, by show (2 * k + 1 - 1) / 2 = k; omega, fun d h0 hd hu => by
    rcases (up_child h0).1 hu with rfl | rfl
    · exact le_refl' _
    · omega⟩
theorem child_left (P' : List It) (k : Nat) (h2 : 2 * k + 2 < P'.length) (hl : ¬ Lt (itAt P' (2 * k + 2)) (itAt P' (2 * k + 1))) : Child P' k (2 * k + 1) :=
  ⟨by omega, by omega, by show (2 * k + 1 - 1) / 2 = k; omega, fun d h0 hd hu => by
    rcases (up_child h0).1 hu with rfl | rfl
    · exact le_refl' _
    · exact hl⟩
theorem child_right (P' : List It) (k : Nat) (h2 : 2 * k + 2 < P'.length) (hl : Lt (itAt P' (2 * k + 2)) (itAt P' (2 * k + 1))) : Child P' k (2 * k + 2) :=
  ⟨by omega, by omega, by show (2 * k + 2 - 1) / 2 = k; omega, fun d h0 hd hu => by
    rcases (up_child h0).1 hu with rfl | rfl
    · exact lt_le hl
    · exact le_refl' _⟩

/-- What stands behind the loop: the item is laid where it has come to. -/
theorem sink_exit (h : SinkRel w B q m N v P P' x k wr) (hl : ∀ c, 0 < c → c < P'.length → up c = k → Le x (itAt P' c)) (hu : Uniq P) (hN : N ≤ 100000) :
    Calls Try.prog 75 #[.pointer (some ⟨q, 0, none⟩), .int .i64 (k : Int), .agg #[.int .i64 x.id, .int .u64 x.d, .int .u64 x.n]] wr fun e w' =>
      e = .returned (.tuple #[]) ∧ ∃ L f', Qst w' B q m v L f' N ∧ L.Perm P ∧ Places L f' ∧ HeapL L ∧ Kept (fun k => k = m ∨ v.ownBlock = some k) w w' := by
  obtain ⟨f', hQ, hlP, hperm, hpb, hris, hkw, hbx, hxok, hkl⟩ := h
  have hk' : k < P'.length := by omega
  have ex : itAt (P'.set k x) k = x := by rw [itAt_set _ _ _ _ hk', if_pos rfl]
  refine (put_any wr B q m N v P' f' hQ k x hk' hxok hN N ?_).mono ?_
  · rw [hpb.is_ x (by have := itAt_mem (L := P'.set k x) (j := k) (by simpa using hk'); rwa [ex] at this)]
    exact Nat.le_refl _
  · rintro e w' ⟨rfl, hQ', hk2⟩
    refine ⟨rfl, P'.set k x, _, hQ', hperm, ?_, ?_, hkw.trans hk2⟩
    · have := hpb.close (hu.perm hperm) (by simpa using hk')
      rwa [ex] at this
    · refine sinking_end hris fun c h0 hc hup => ?_
      rw [ex, itAt_set _ _ _ _ hk', if_neg (by have := up_lt h0; omega)]
      exact hl c h0 (by simpa using hc) hup
theorem sink_out (h : SinkRel w B q m N v P P' x k wr) {c : Nat} (hc : Child P' k c) (hl : Lt x (itAt P' c)) (hu : Uniq P) (hN : N ≤ 100000) :
    Calls Try.prog 75 #[.pointer (some ⟨q, 0, none⟩), .int .i64 (k : Int), .agg #[.int .i64 x.id, .int .u64 x.d, .int .u64 x.n]] wr fun e w' =>
      e = .returned (.tuple #[]) ∧ ∃ L f', Qst w' B q m v L f' N ∧ L.Perm P ∧ Places L f' ∧ HeapL L ∧ Kept (fun k => k = m ∨ v.ownBlock = some k) w w' :=
  sink_exit h (fun d h0 hd hup => le_trans' (lt_le hl) (hc.2.2.2 d h0 hd hup)) hu hN

/-- A round: the child that stands ahead is laid here. -/
theorem sink_next (h : SinkRel w B q m N v P P' x k wr) {c : Nat} (hc : Child P' k c) (hl : ¬ Lt x (itAt P' c)) (hu : Uniq P) (hN : N ≤ 100000) (hnew : v.ownBlock ≠ some w.heap.size) (hm : m < w.heap.size) :
    Calls Try.prog 75 #[.pointer (some ⟨q, 0, none⟩), .int .i64 (k : Int), .agg #[.int .i64 (itAt P' c).id, .int .u64 (itAt P' c).d, .int .u64 (itAt P' c).n]] wr fun e w' =>
      e = .returned (.tuple #[]) ∧ SinkRel w B q m N v P (P'.set k (itAt P' c)) x c w' := by
  obtain ⟨f', hQ, hlP, hperm, hpb, hris, hkw, hbx, hxok, hkl⟩ := h
  obtain ⟨c0, cl, cu, cm⟩ := hc
  have hk' : k < P'.length := by omega
  have hkc : k < c := by have := up_lt c0; omega
  have e1 : ∀ d, d ≠ k → itAt (P'.set k x) d = itAt P' d := fun d hd => by rw [itAt_set _ _ _ _ hk', if_neg hd]
  have ex : itAt (P'.set k x) k = x := by rw [itAt_set _ _ _ _ hk', if_pos rfl]
  have hsw : (P'.set k (itAt P' c)).set c x = swp (P'.set k x) k c := by
    unfold swp
    rw [e1 c (by omega), ex, List.set_set]
  have hlk : k < (P'.set k x).length := by simpa using hk'
  have hlc : c < (P'.set k x).length := by simpa using cl
  refine (put_any wr B q m N v P' f' hQ k (itAt P' c) hk' (hQ.ok _ (itAt_mem cl)) hN N ?_).mono ?_
  · rw [hpb.is_ (itAt P' c) (by have := itAt_mem hlc; rwa [e1 c (by omega)] at this)]
    exact Nat.le_refl _
  · rintro e w' ⟨rfl, hQ', hk2⟩
    refine ⟨rfl, _, hQ', by simpa using hlP, ?_, ?_, ?_, hkw.trans hk2, hbx.kept hk2 ?_, hxok, by omega⟩
    · rw [hsw]; exact (swp_perm _ _ _ hlk hlc).trans hperm
    · rw [hsw, ← e1 c (by omega)]; exact hpb.step (hu.perm hperm) c hlk hlc (by omega)
    · rw [hsw]
      refine sinking_step hris c0 hlc cu (fun d h0 hd hup => ?_) (by rw [ex, e1 c (by omega)]; exact hl)
      rw [e1 c (by omega), e1 d (by have := up_lt h0; omega)]
      exact cm d h0 (by simpa using hd) hup
    · rintro (e | e)
      · have := hkw.size; omega
      · exact hnew e
end

set_option maxHeartbeats 2000000 in
set_option maxRecDepth 100000 in
theorem sink_any (w : World) (B q m N : Nat) (v : Value) (P : List It) (f : Int → Option Nat) (h : Qst w B q m v P f N) (i0 : Nat) (hi : i0 < P.length) (hN : N ≤ 100000) (hu : Uniq P) (hp : Places P f) (hR : Sinking P i0) :
    Calls Try.prog 77 #[.pointer (some ⟨q, 0, none⟩), .int .i64 (i0 : Int)] w fun e w' =>
      e = .returned (.tuple #[]) ∧ ∃ L f', Qst w' B q m v L f' N ∧ L.Perm P ∧ Places L f' ∧ HeapL L ∧ Kept (fun k => k = m ∨ v.ownBlock = some k) w w' := by
  have mixed : Try.prog.follows .mixedOrders = true := by kernel_rfl
  obtain ⟨g, cap, rfl, hc, hgl, hgB, hfz, hcell⟩ := h.form (by omega)
  have ql := h.blk.lt
  have c0 := h.blk.cell 0
  simp at c0
  have hx := itAt_some hi
  obtain ⟨x, ex⟩ : ∃ x, x = itAt P i0 := ⟨_, rfl⟩
  rw [← ex] at hx
  obtain ⟨x0, x1, x2⟩ := hcell i0 x hx
  clear hcell hfz
  have b0 : (0 : Int) ≤ (i0 : Int) := by omega
  have b1 : (i0 : Int) < (P.length : Int) := by omega
  have hlen := h.len
  have hst : SinkRel w B q m N (.slice (some ⟨g, 0, none⟩) P.length cap) P P x i0 ((w.alloc (.cells #[.int .i64 x.id, .int .u64 x.d, .int .u64 x.n] 44))) := by
    have e : P.set i0 x = P := ext_at (by simp) fun j hj => by
      rw [itAt_set _ _ _ _ hi]
      by_cases e : j = i0
      · rw [if_pos e, e, ex]
      · rw [if_neg e]
    refine ⟨f, h.kept ((Kept.refl (fun _ => False) w).alloc _) (fun _ _ e => e), rfl, by rw [e], by rw [e]; exact hp.but i0, by rw [e]; exact hR, (Kept.refl _ w).alloc _, Blk.new _ _ _, h.ok x (List.mem_of_getElem? hx), hi⟩
  have HS := Lib.hid hst
  have HM := Lib.hid (And.intro (fun e => by have := (own_lt h.row e).1; omega : (Value.slice (some ⟨g, 0, none⟩) P.length cap).ownBlock ≠ some w.heap.size) h.pm.lt)
  have HH := Lib.hid (And.intro hu (And.intro hN ex))
  clear hst hu hN ex hp hR h hx
  go_enter Try.func77, Try.ntmps77
  refine wp_scope_straight ?_
  go_wp2_with fail
  go_step3
  go_wp2_with fail
  go_loopw [1] (fun i wr => ∃ (k : Nat) (P' : List It), i = .int .i64 (k : Int) ∧ SinkRel w B q m N (.slice (some ⟨g, 0, none⟩) P.length cap) P P' x k wr) (fun i _ => P.length - (intOf i).toNat)
  case atStart => exact ⟨i0, P, rfl, HS.out⟩
  case round =>
    obtain ⟨k, P', rfl, hRR⟩ := hrel
    obtain ⟨f', hQ, hlP, -, -, -, hkw, hbx, hxok, hkl⟩ := id hRR
    obtain ⟨-, -, d0, -, hgl', hcells⟩ := hQ.cells
    have bx := hbx.lt
    have k1 : (k : Int) < (P.length : Int) := by omega
    have k2 : (0 : Int) ≤ (k : Int) := by omega
    have HG := Lib.hid (fun n os => sink_grow hRR n os)
    have HN : Hid ((Value.slice (some ⟨g, 0, none⟩) P.length cap).ownBlock ≠ some w.heap.size ∧ m < w.heap.size) := HM.out
    have ql' := hQ.blk.lt
    have x0' := hbx.cell 0
    have x1' := hbx.cell 1
    have x2' := hbx.cell 2
    simp at x0' x1' x2'
    have HC := Lib.hid hcells
    have HRR := Lib.hid hRR
    have HL := Lib.hid hlP
    have HQ := Lib.hid ql'
    clear hQ hkw hbx hcells hRR hlP c0 x0 x1 x2
    obtain ⟨c1, ec1⟩ : ∃ c, c = 2 * k + 1 := ⟨_, rfl⟩
    obtain ⟨c2, ec2⟩ : ∃ c, c = 2 * k + 2 := ⟨_, rfl⟩
    have hc1 : 2 * (k : Int) + 1 = (c1 : Int) := by omega
    have hc2 : (c1 : Int) + 1 = (c2 : Int) := by omega
    have EC := Lib.hid (And.intro ec1 ec2)
    have EB := Lib.hid (show (0 : Int) ≤ (c1 : Int) ∧ (0 : Int) ≤ (c2 : Int) by omega)
    clear ec1 ec2
    go_upto_block 2 with fail
    go_cut [5] (fun s5 wx => ∃ c : Nat, s5 = .int .i64 (c : Int) ∧ Child P' k c ∧ SinkRel w B q m N (.slice (some ⟨g, 0, none⟩) P.length cap) P P' x k wx)
    case first =>
      by_cases ha : 2 * k + 1 < P.length
      · by_cases hb : 2 * k + 2 < P.length
        · have f1 : decide (P.length ≤ c1) = false := by have := EC.out; simp; omega
          have f2 : decide (c2 < P.length) = true := by have := EC.out; simp; omega
          have b10 : (0 : Int) ≤ (c1 : Int) := EB.out.1
          have b20 : (0 : Int) ≤ (c2 : Int) := EB.out.2
          have b11 : (c1 : Int) < (P.length : Int) := by have := EC.out; omega
          have b21 : (c2 : Int) < (P.length : Int) := by have := EC.out; omega
          have hl1 : c1 < P'.length := by have := HL.out; omega
          have hl2 : c2 < P'.length := by have := HL.out; omega
          obtain ⟨y, ey⟩ : ∃ y, y = itAt P' c1 := ⟨_, rfl⟩
          obtain ⟨z, ez⟩ : ∃ z, z = itAt P' c2 := ⟨_, rfl⟩
          have hy := itAt_some hl1
          have hz := itAt_some hl2
          rw [← ey] at hy
          rw [← ez] at hz
          obtain ⟨y0, y1, y2⟩ := HC.out c1 y hy
          obtain ⟨z0, z1, z2⟩ := HC.out c2 z hz
          have E0 := cell_grown (w := wr) (a := ⟨q, 0, none⟩) HQ.out d0
          have E1 := cell_grown (w := wr) (a := ⟨g, c1 * 3, none⟩) hgl' y0
          have E2 := cell_grown (w := wr) (a := ⟨g, c1 * 3 + 1, none⟩) hgl' y1
          have E3 := cell_grown (w := wr) (a := ⟨g, c1 * 3 + 2, none⟩) hgl' y2
          have E4 := cell_grown (w := wr) (a := ⟨g, c2 * 3, none⟩) hgl' z0
          have E5 := cell_grown (w := wr) (a := ⟨g, c2 * 3 + 1, none⟩) hgl' z1
          have E6 := cell_grown (w := wr) (a := ⟨g, c2 * 3 + 2, none⟩) hgl' z2
          have hw2 : IntKind.i64.wrap ((c1 : Int) + 1) = (c2 : Int) := by rw [hc2]; exact IntWalk.i64_in _ (by omega)
          have HO := Lib.hid (fun n os => order_grown z y wr n os)
          have HYX := Lib.hid (And.intro (ord_lt z y) (And.intro ey ez))
          have HH2 := Lib.hid hb
          clear y0 y1 y2 z0 z1 z2 hy hz ey ez ha hb hl1 hl2 x0' x1' x2'
          generalize ordI z y = o at HO HYX
          by_cases ho : o < 0
          · go_wp2_with fail
            refine wp_region_quiet_grown (by assumption) (by kernel_rfl) ?_
            repeat (first | go_big_quiet_step ((go_at_call 83; refine HO.out _ _)) | quiet_step ((go_at_call 83; refine HO.out _ _)))
            refine wpQuiet_nil ?_
            intro _ hw'
            obtain ⟨⟨nq, osq⟩, hw''⟩ := hw'
            subst hw''
            go_wp2_with fail
            obtain ⟨hlt, ey, ez⟩ := HYX.out
            obtain ⟨ec1, ec2⟩ := EC.out
            have hch := child_right P' k (by have := HL.out; have := HH2.out; omega) (by rw [← ec1, ← ec2, ← ey, ← ez]; exact hlt.1 ho)
            rw [← ec2] at hch
            have HCH := Lib.hid hch
            clear hlt ey ez ec1 ec2 hch
            go_meet
            case rel => exact ⟨c2, rfl, HCH.out, HG.out nq osq⟩
          · have ho' : decide (o < 0) = false := by simpa using ho
            go_wp2_with fail
            refine wp_region_quiet_grown (by assumption) (by kernel_rfl) ?_
            repeat (first | go_big_quiet_step ((go_at_call 83; refine HO.out _ _)) | quiet_step ((go_at_call 83; refine HO.out _ _)))
            refine wpQuiet_nil ?_
            intro _ hw'
            obtain ⟨⟨nq, osq⟩, hw''⟩ := hw'
            subst hw''
            go_wp2_with fail
            obtain ⟨hlt, ey, ez⟩ := HYX.out
            obtain ⟨ec1, ec2⟩ := EC.out
            have hch := child_left P' k (by have := HL.out; have := HH2.out; omega) (by rw [← ec1, ← ec2, ← ey, ← ez]; exact fun h => by have := hlt.2 h; omega)
            rw [← ec1] at hch
            have HCH := Lib.hid hch
            clear hlt ey ez ec1 ec2 hch
            go_meet
            case rel => exact ⟨c1, rfl, HCH.out, HG.out nq osq⟩
        · have f1 : decide (P.length ≤ c1) = false := by have := EC.out; simp; omega
          have f2 : decide (c2 < P.length) = false := by have := EC.out; simp; omega
          have E0 := cell_grown (w := wr) (a := ⟨q, 0, none⟩) HQ.out d0
          have hw2 : IntKind.i64.wrap ((c1 : Int) + 1) = (c2 : Int) := by rw [hc2]; exact IntWalk.i64_in _ (by omega)
          have HH2 := Lib.hid (And.intro ha hb)
          clear ha hb
          go_wp2_with fail
          refine wp_region_quiet_grown (by assumption) (by kernel_rfl) ?_
          repeat (first | go_big_quiet_step (fail) | quiet_step (fail))
          refine wpQuiet_nil ?_
          intro _ hw'
          obtain ⟨⟨nq, osq⟩, hw''⟩ := hw'
          subst hw''
          go_wp2_with fail
          have hch := child_one P' k (by have := HL.out; have := HH2.out; omega) (by have := HL.out; have := HH2.out; omega)
          rw [← EC.out.1] at hch
          have HCH := Lib.hid hch
          clear hch
          go_meet
          case rel => exact ⟨c1, rfl, HCH.out, HG.out nq osq⟩
      · have HE := Lib.hid (sink_exit HRR.out (fun c h0 hc hup => absurd hc (by have := HL.out; rcases (up_child h0).1 hup with rfl | rfl <;> omega)) HH.out.1 HH.out.2.1)
        have f1 : decide (P.length ≤ c1) = true := by have := EC.out; simp; omega
        go_wp2_with (go_at_call 75; refine HE.out.mono ?_; rintro e w4 ⟨rfl, hpost⟩)
        rw [Exit.noGoto_normal]
        go_end0
        exact ⟨rfl, hpost⟩
    case rest =>
      obtain ⟨c, hs5, hch, hRR⟩ := hcut
      subst hs5
      obtain ⟨f', hQ, hlP, -, -, -, hkw, hbx, hxok, hkl⟩ := id hRR
      obtain ⟨-, -, d0, -, hgl', hcells⟩ := hQ.cells
      have bx := hbx.lt
      have hcl := hch.2.1
      have hkc : k < c := by have h1 := hch.2.2.1; have h2 := up_lt hch.1; omega
      obtain ⟨y, ey⟩ : ∃ y, y = itAt P' c := ⟨_, rfl⟩
      have hy := itAt_some hcl
      rw [← ey] at hy
      obtain ⟨y0, y1, y2⟩ := hcells c y hy
      have p0 : (0 : Int) ≤ (c : Int) := by omega
      have p1 : (c : Int) < (P.length : Int) := by omega
      have x0' := hbx.cell 0
      have x1' := hbx.cell 1
      have x2' := hbx.cell 2
      simp at x0' x1' x2'
      have HG := Lib.hid (fun n os => sink_grow hRR n os)
      have E0 := cell_grown (w := wc) (a := ⟨q, 0, none⟩) hQ.blk.lt d0
      have E1 := cell_grown (w := wc) (a := ⟨g, c * 3, none⟩) hgl' y0
      have E2 := cell_grown (w := wc) (a := ⟨g, c * 3 + 1, none⟩) hgl' y1
      have E3 := cell_grown (w := wc) (a := ⟨g, c * 3 + 2, none⟩) hgl' y2
      have E4 := cell_grown (w := wc) (a := ⟨w.heap.size, 0, none⟩) bx x0'
      have E5 := cell_grown (w := wc) (a := ⟨w.heap.size, 1, none⟩) bx x1'
      have E6 := cell_grown (w := wc) (a := ⟨w.heap.size, 2, none⟩) bx x2'
      have HO := Lib.hid (fun n os => order_grown x y wc n os)
      have HYX := Lib.hid (And.intro (ord_lt x y) (And.intro ey hch))
      have HLP := Lib.hid (And.intro hlP hcl)
      clear hcells x0' x1' x2' y0 y1 y2 d0 hy ey hQ hkw hRR hbx hch hlP hcl
      generalize ordI x y = o at HO HYX
      by_cases ho : o < 0
      · go_wp2_with fail
        refine wp_region_quiet_grown (by assumption) (by kernel_rfl) ?_
        repeat (first | go_big_quiet_step ((go_at_call 83; refine HO.out _ _)) | quiet_step ((go_at_call 83; refine HO.out _ _)))
        refine wpQuiet_nil ?_
        intro _ hw'
        obtain ⟨⟨nq, osq⟩, hw''⟩ := hw'
        subst hw''
        obtain ⟨hlt, ey, hch⟩ := HYX.out
        have HE := Lib.hid (sink_out (HG.out nq osq) hch (by rw [← ey]; exact hlt.1 ho) HH.out.1 HH.out.2.1)
        clear hlt ey hch
        go_wp2_with (go_at_call 75; refine HE.out.mono ?_; rintro e w4 ⟨rfl, hpost⟩)
        rw [Exit.noGoto_normal]
        go_end0
        exact ⟨rfl, hpost⟩
      · have ho' : decide (o < 0) = false := by simpa using ho
        go_wp2_with fail
        refine wp_region_quiet_grown (by assumption) (by kernel_rfl) ?_
        repeat (first | go_big_quiet_step ((go_at_call 83; refine HO.out _ _)) | quiet_step ((go_at_call 83; refine HO.out _ _)))
        refine wpQuiet_nil ?_
        intro _ hw'
        obtain ⟨⟨nq, osq⟩, hw''⟩ := hw'
        subst hw''
        obtain ⟨hlt, ey, hch⟩ := HYX.out
        have HE := sink_next (HG.out nq osq) hch (by rw [← ey]; exact fun h => by have := hlt.2 h; omega) HH.out.1 HH.out.2.1 HN.out.1 HN.out.2
        rw [← ey] at HE
        have HE := Lib.hid HE
        clear hlt ey hch
        go_wp2_with (go_at_call 75; refine HE.out.mono ?_; rintro e w4 ⟨rfl, hpost⟩)
        go_roundw
        case rel => exact ⟨c, _, rfl, hpost⟩
        case measure => have := HLP.out; simp [intOf]; omega
end Go.Proofs.Ytncdohbdmpfefaa
