/-
  What an end is ready for.
-/
import Derived.Test.YtjejpgognfadoaaGreatDoorWdRing
import Derived.Test.YtjejpgognfadoaaGreatDoorCmWhole
import Derived.Test.YtjejpgognfadoaaGreatDoorCmQuiet
namespace Go.Proofs.YtjejpgognfadoaaGreatDoor
open Go.RowKit Go.Maps Go.ChangeMaps

def rdyV (R : Rdy) : Value := .agg #[.bool R.isOpen, .bool R.rin, .bool R.out, .bool R.hup, .bool R.err, .int .u64 (R.rd : Int), .int .u64 (R.wr : Int)]

theorem rin_cases (x : Wi) (k : Bool) : (0 < x.wait.length ∧ x.rin k = true) ∨ (x.wait.length = 0 ∧ (x.e k).can = false ∧ x.rin k = false) ∨ (x.wait.length = 0 ∧ (x.e k).can = true ∧ 0 < (x.e k).bs.length ∧ x.rin k = true)
    ∨ (x.wait.length = 0 ∧ (x.e k).can = true ∧ (x.e k).bs.length = 0 ∧ x.noWriter k = true ∧ x.rin k = true) ∨ (x.wait.length = 0 ∧ (x.e k).can = true ∧ (x.e k).bs.length = 0 ∧ x.noWriter k = false ∧ x.rin k = x.reset) := by
  unfold Wi.rin
  by_cases h1 : 0 < x.wait.length
  · exact .inl ⟨h1, by simp [h1]⟩
  · refine .inr ?_
    have h1' : x.wait.length = 0 := by omega
    cases hc : (x.e k).can with
    | false => exact .inl ⟨h1', rfl, by simp [h1']⟩
    | true =>
      refine .inr ?_
      by_cases h2 : 0 < (x.e k).bs.length
      · exact .inl ⟨h1', rfl, h2, by simp [h2]⟩
      · have h2' : (x.e k).bs.length = 0 := by omega
        refine .inr ?_
        cases hn : x.noWriter k with
        | true => exact .inl ⟨h1', rfl, h2', rfl, by simp⟩
        | false => exact .inr ⟨h1', rfl, h2', rfl, by simp [h1', h2']⟩
theorem rout_cases (x : Wi) (k : Bool) : ((x.e (!k)).can = false ∧ x.out k = false) ∨ ((x.e (!k)).can = true ∧ (x.e k).shut = true ∧ x.out k = false) ∨ ((x.e (!k)).can = true ∧ (x.e k).shut = false ∧ 0 < x.cap - (x.e (!k)).bs.length ∧ x.out k = true)
    ∨ ((x.e (!k)).can = true ∧ (x.e k).shut = false ∧ x.cap - (x.e (!k)).bs.length = 0 ∧ x.noReader k = true ∧ x.out k = true) ∨ ((x.e (!k)).can = true ∧ (x.e k).shut = false ∧ x.cap - (x.e (!k)).bs.length = 0 ∧ x.noReader k = false ∧ x.out k = x.reset) := by
  unfold Wi.out
  cases hc : (x.e (!k)).can with
  | false => exact .inl ⟨rfl, by simp⟩
  | true =>
    refine .inr ?_
    cases hs : (x.e k).shut with
    | true => exact .inl ⟨rfl, rfl, by simp⟩
    | false =>
      refine .inr ?_
      by_cases h2 : 0 < x.cap - (x.e (!k)).bs.length
      · exact .inl ⟨rfl, rfl, h2, by simp [h2]⟩
      · have h2' : x.cap - (x.e (!k)).bs.length = 0 := by omega
        refine .inr ?_
        cases hn : x.noReader k with
        | true => exact .inl ⟨rfl, rfl, h2', rfl, by simp⟩
        | false => exact .inr ⟨rfl, rfl, h2', rfl, by simp [h2']⟩

/-- What the walk wants of the ring of an end: its pointer, and what it answers. -/
def RgV (W : World) (p : Value) (can : Bool) (len room : Nat) : Prop := (can = false ∧ p = .pointer none) ∨ (can = true ∧ ∃ b, p = .pointer (some ⟨b, 0, none⟩) ∧
  (∀ q, Calls Tryz.prog 39 #[.pointer (some ⟨b, 0, none⟩)] (W.drewN q) fun e w' => e = .returned (.int .i64 (len : Int)) ∧ ∃ m, w' = (W.drewN q).drewN m) ∧
  (∀ q, Calls Tryz.prog 44 #[.pointer (some ⟨b, 0, none⟩)] (W.drewN q) fun e w' => e = .returned (.int .i64 (room : Int)) ∧ ∃ m, w' = (W.drewN q).drewN m))
theorem Wr.rgv {W : World} {B g n : Nat} {r : Bool → Nat} {F : Bool → Nat → Prop} {v : Value} {x : Wi} (h : Wr W B g n r F v x) (k : Bool) : RgV W (rp (x.e k).can (r k)) (x.e k).can (x.e k).bs.length (x.cap - (x.e k).bs.length) := by
  cases hc : (x.e k).can with
  | false => exact .inl ⟨rfl, rfl⟩
  | true =>
    obtain ⟨out, hr⟩ := h.ring k hc
    exact .inr ⟨rfl, r k, rfl, fun q => len_any (hr.drewN q), fun q => room_any (hr.drewN q)⟩

section
variable {w w' : World} {B g n : Nat} {r : Bool → Nat} {F : Bool → Nat → Prop} {v : Value} {x : Wi}
set_option maxRecDepth 100000 in
set_option maxHeartbeats 40000000 in
theorem ready_any (h : Wr w B g n r F v x) (k : Bool) {A : Option Addr} {c : Nat} (hv : v = .slice A x.wait.length c) :
    Calls Tryz.prog 45 #[.pointer (some ⟨g, off k, none⟩)] w fun e w' => e = .returned (rdyV (x.ready k)) ∧ Kept (fun _ => False) w w' := by
  subst hv
  have K0 := (Kept.refl (fun _ => False) w).alloc (.cells #[.bool false, .bool false, .bool false, .bool false, .bool false, .int .u64 0, .int .u64 0] 37)
  obtain ⟨W, hW⟩ : ∃ W, W = w.alloc (.cells #[.bool false, .bool false, .bool false, .bool false, .bool false, .int .u64 0, .int .u64 0] 37) := ⟨_, rfl⟩
  have h1 : Wr W B g n r F _ x := hW ▸ h.kept K0 (fun _ _ e => e)
  have hb := Blk.new w 37 #[.bool false, .bool false, .bool false, .bool false, .bool false, .int .u64 0, .int .u64 0]
  have hsz := World.size_alloc w (.cells #[.bool false, .bool false, .bool false, .bool false, .bool false, .int .u64 0, .int .u64 0] 37)
  rw [← hW] at K0 hb hsz
  have HK := Lib.hid K0
  have c0 := h1.blk.c0 k
  have c00 := h.blk.c0 k
  have lg0 := h.blk.lt
  have c3 := h1.blk.c3 k
  have c4 := h1.blk.c4 k
  have c5 := h1.blk.c5 k
  have c6 := h1.blk.c6 k
  have d2 := h1.blk.c2 (!k)
  have d4 := h1.blk.c4 (!k)
  have w15 := h1.blk.w15
  have w17 := h1.blk.w17
  have HR := Lib.hid (fun q => canRead_any (h1.blk.drewN q) k)
  have HNW := Lib.hid (fun q => noWriter_any (h1.blk.drewN q) k)
  have HW := Lib.hid (fun q => canWrite_any (h1.blk.drewN q) k)
  have HO := Lib.hid (fun q => other_any (h1.blk.drewN q) k)
  have HNR := Lib.hid (fun q => noReader_any (h1.blk.drewN q) k)
  have g0 := h1.rgv k
  have g1 := h1.rgv (!k)
  have hnr : x.noReader k = decide ((x.e (!k)).is = 3) := rfl
  have hrd : x.ready k = ⟨true, x.rin k, x.out k, x.noReader k, x.reset, (x.e k).rd, (x.e k).wr⟩ := rfl
  rw [hrd]
  have HI := rin_cases x k
  have HU := rout_cases x k
  have hsr : decide (((x.e (!k)).is : Int) = 3) = x.noReader k := by rw [hnr]; exact decide_eq_decide.2 (by omega)
  clear h h1 hrd hnr K0
  generalize hcan : (x.e k).can = can at *
  generalize hcan2 : (x.e (!k)).can = can2 at *
  generalize hnw : x.noWriter k = nw at *
  generalize hnr : x.noReader k = nr at *
  generalize hrin : x.rin k = rin at *
  generalize hout : x.out k = out at *
  generalize (x.e k).bs.length = len at *
  generalize x.cap - (x.e (!k)).bs.length = room at *
  generalize x.cap - (x.e k).bs.length = room0 at *
  generalize (x.e (!k)).bs.length = len2 at *
  generalize (x.e k).shut = shut at *
  generalize hz : (((x.e (!k)).is : Nat) : Int) = z at *
  generalize x.reset = rs at *
  generalize (x.e k).rd = rd at *
  generalize (x.e k).wr = wr at *
  generalize x.wait.length = wl at *
  generalize rp can (r k) = p0 at *
  generalize rp can2 (r !k) = p1 at *
  clear hcan hcan2 hnw hnr hrin hout hz
  have HS := Lib.hid hsr
  have lg : w.heap.size < W.heap.size := by omega
  have bz : ∀ j, W.frozen? ⟨w.heap.size, j, none⟩ = false := fun j => Blk.frozen hb j
  have b0 := Blk.cell hb 0
  have b1 := Blk.cell hb 1
  have b2 := Blk.cell hb 2
  have b3 := Blk.cell hb 3
  have b4 := Blk.cell hb 4
  have b5 := Blk.cell hb 5
  have b6 := Blk.cell hb 6
  simp at b0 b1 b2 b3 b4 b5 b6
  have HB := Lib.hid hb
  clear hb hsr
  go_enter Tryz.func45, Tryz.ntmps45
  go_wp2_with fail
  rw [← hW]
  clear hW
  try simp only [List.append]
  refine wp_region_quiet_last 75 rfl (by kernel_rfl) (by kernel_rfl) (by kernel_rfl) ?_
  simp only [List.take_succ_cons, List.take_zero]
  refine wpQuiet_cut 28 (fun a => ∃ v8 v9 v10 v11 v12 v13 v14 v15 v16 v17 v18 v19 v20 v21 v22 v23 v24 v25 v26 v27 v28 v29 v30 v31 v32 v33 v34 : Value, a = { tmps := #[.pointer (some ⟨g, off k, none⟩), undef, .pointer (some ⟨w.heap.size, 0, none⟩), .pointer (some ⟨g, 0, none⟩), .pointer (some ⟨g, off k, none⟩), .pointer (some ⟨g, off k, none⟩), .pointer (some ⟨g, off k, none⟩), .pointer (some ⟨g, 0, none⟩), v8, v9, v10, v11, v12, v13, v14, v15, v16, v17, v18, v19, v20, v21, v22, v23, v24, v25, v26, v27, v28, v29, v30, v31, v32, v33, v34, .bool rin, undef, undef, undef, undef, undef, undef, undef, undef, undef, undef, undef, undef, undef, undef, undef, undef, undef, undef, undef, undef, undef, undef, undef, undef, undef, undef, undef, undef, undef, undef, undef, undef, undef, undef, undef, undef, undef, undef, undef, undef, undef, undef, undef, undef, undef, undef, undef], defers := [] }) ?_ ?_
  · simp only [List.take_succ_cons, List.take_zero]
    clear HU g1
    rcases g0 with ⟨rfl, rfl⟩ | ⟨rfl, rb, rfl, HL, HRM⟩
    · rcases HI with ⟨i1, rfl⟩ | ⟨i1, _, rfl⟩ | ⟨_, e, _⟩ | ⟨_, e, _⟩ | ⟨_, e, _⟩
      · have b1 : decide (0 < wl) = true := by simpa using i1
        repeat (go_big_quiet_step (first
          | (go_at_call 38; exact Calls.quiet_of (HR.out _))
          | (go_at_call 41; exact Calls.quiet_of (HNW.out _))
          | (go_at_call 43; exact Calls.quiet_of (HW.out _))
          | (go_at_call 35; exact Calls.quiet_of (HO.out _))
          | (go_at_call 34; exact Calls.quiet_of (HNR.out _))
          | (go_at_call 39; exact Calls.quiet_of (HL.out _))
          | (go_at_call 44; exact Calls.quiet_of (HRM.out _))))
        refine wpQuiet_nil ?_
        exact ⟨_, _, _, _, _, _, _, _, _, _, _, _, _, _, _, _, _, _, _, _, _, _, _, _, _, _, _, rfl⟩
      · subst i1
        repeat (go_big_quiet_step (first
          | (go_at_call 38; exact Calls.quiet_of (HR.out _))
          | (go_at_call 41; exact Calls.quiet_of (HNW.out _))
          | (go_at_call 43; exact Calls.quiet_of (HW.out _))
          | (go_at_call 35; exact Calls.quiet_of (HO.out _))
          | (go_at_call 34; exact Calls.quiet_of (HNR.out _))
          | (go_at_call 39; exact Calls.quiet_of (HL.out _))
          | (go_at_call 44; exact Calls.quiet_of (HRM.out _))))
        refine wpQuiet_nil ?_
        exact ⟨_, _, _, _, _, _, _, _, _, _, _, _, _, _, _, _, _, _, _, _, _, _, _, _, _, _, _, rfl⟩
      all_goals cases e
    · replace HL := Lib.hid HL
      replace HRM := Lib.hid HRM
      rcases HI with ⟨i1, rfl⟩ | ⟨_, e, _⟩ | ⟨i1, _, i2, rfl⟩ | ⟨i1, _, i2, rfl, rfl⟩ | ⟨i1, _, i2, rfl, rfl⟩
      · have b1 : decide (0 < wl) = true := by simpa using i1
        repeat (go_big_quiet_step (first
          | (go_at_call 38; exact Calls.quiet_of (HR.out _))
          | (go_at_call 41; exact Calls.quiet_of (HNW.out _))
          | (go_at_call 43; exact Calls.quiet_of (HW.out _))
          | (go_at_call 35; exact Calls.quiet_of (HO.out _))
          | (go_at_call 34; exact Calls.quiet_of (HNR.out _))
          | (go_at_call 39; exact Calls.quiet_of (HL.out _))
          | (go_at_call 44; exact Calls.quiet_of (HRM.out _))))
        refine wpQuiet_nil ?_
        exact ⟨_, _, _, _, _, _, _, _, _, _, _, _, _, _, _, _, _, _, _, _, _, _, _, _, _, _, _, rfl⟩
      · cases e
      · subst i1
        have b2 : decide (0 < len) = true := by simpa using i2
        repeat (go_big_quiet_step (first
          | (go_at_call 38; exact Calls.quiet_of (HR.out _))
          | (go_at_call 41; exact Calls.quiet_of (HNW.out _))
          | (go_at_call 43; exact Calls.quiet_of (HW.out _))
          | (go_at_call 35; exact Calls.quiet_of (HO.out _))
          | (go_at_call 34; exact Calls.quiet_of (HNR.out _))
          | (go_at_call 39; exact Calls.quiet_of (HL.out _))
          | (go_at_call 44; exact Calls.quiet_of (HRM.out _))))
        refine wpQuiet_nil ?_
        exact ⟨_, _, _, _, _, _, _, _, _, _, _, _, _, _, _, _, _, _, _, _, _, _, _, _, _, _, _, rfl⟩
      all_goals
        subst i1
        subst i2
        repeat (go_big_quiet_step (first
          | (go_at_call 38; exact Calls.quiet_of (HR.out _))
          | (go_at_call 41; exact Calls.quiet_of (HNW.out _))
          | (go_at_call 43; exact Calls.quiet_of (HW.out _))
          | (go_at_call 35; exact Calls.quiet_of (HO.out _))
          | (go_at_call 34; exact Calls.quiet_of (HNR.out _))
          | (go_at_call 39; exact Calls.quiet_of (HL.out _))
          | (go_at_call 44; exact Calls.quiet_of (HRM.out _))))
        refine wpQuiet_nil ?_
        exact ⟨_, _, _, _, _, _, _, _, _, _, _, _, _, _, _, _, _, _, _, _, _, _, _, _, _, _, _, rfl⟩
  rintro _ ⟨v8, v9, v10, v11, v12, v13, v14, v15, v16, v17, v18, v19, v20, v21, v22, v23, v24, v25, v26, v27, v28, v29, v30, v31, v32, v33, v34, rfl⟩
  simp only [List.drop_succ_cons, List.drop_zero]
  clear HI g0
  refine wpQuiet_cut 28 (fun a => ∃ v8 v9 v10 v11 v12 v13 v14 v15 v16 v17 v18 v19 v20 v21 v22 v23 v24 v25 v26 v27 v28 v29 v30 v31 v32 v33 v34 v36 v37 v38 v39 v40 v41 v42 v43 v44 v45 v46 v47 v48 v49 v50 v51 v52 v53 v54 v55 v56 v57 v58 v59 v60 v61 v62 : Value, a = { tmps := #[.pointer (some ⟨g, off k, none⟩), undef, .pointer (some ⟨w.heap.size, 0, none⟩), .pointer (some ⟨g, 0, none⟩), .pointer (some ⟨g, off k, none⟩), .pointer (some ⟨g, off k, none⟩), .pointer (some ⟨g, off k, none⟩), .pointer (some ⟨g, 0, none⟩), v8, v9, v10, v11, v12, v13, v14, v15, v16, v17, v18, v19, v20, v21, v22, v23, v24, v25, v26, v27, v28, v29, v30, v31, v32, v33, v34, .bool rin, v36, v37, v38, v39, v40, v41, v42, v43, v44, v45, v46, v47, v48, v49, v50, v51, v52, v53, v54, v55, v56, v57, v58, v59, v60, v61, v62, .bool out, undef, undef, undef, undef, undef, undef, undef, undef, undef, undef, undef, undef, undef, undef, undef, undef, undef, undef, undef], defers := [] }) ?_ ?_
  · simp only [List.take_succ_cons, List.take_zero]
    rcases g1 with ⟨rfl, rfl⟩ | ⟨rfl, rb, rfl, HL, HRM⟩
    · rcases HU with ⟨_, rfl⟩ | ⟨e, _⟩ | ⟨e, _⟩ | ⟨e, _⟩ | ⟨e, _⟩
      · repeat (go_big_quiet_step (first
          | (go_at_call 38; exact Calls.quiet_of (HR.out _))
          | (go_at_call 41; exact Calls.quiet_of (HNW.out _))
          | (go_at_call 43; exact Calls.quiet_of (HW.out _))
          | (go_at_call 35; exact Calls.quiet_of (HO.out _))
          | (go_at_call 34; exact Calls.quiet_of (HNR.out _))
          | (go_at_call 39; exact Calls.quiet_of (HL.out _))
          | (go_at_call 44; exact Calls.quiet_of (HRM.out _))))
        refine wpQuiet_nil ?_
        exact ⟨_, _, _, _, _, _, _, _, _, _, _, _, _, _, _, _, _, _, _, _, _, _, _, _, _, _, _, _, _, _, _, _, _, _, _, _, _, _, _, _, _, _, _, _, _, _, _, _, _, _, _, _, _, _, rfl⟩
      all_goals cases e
    · replace HL := Lib.hid HL
      replace HRM := Lib.hid HRM
      rcases HU with ⟨e, _⟩ | ⟨_, rfl, rfl⟩ | ⟨_, rfl, i2, rfl⟩ | ⟨_, rfl, i2, rfl, rfl⟩ | ⟨_, rfl, i2, rfl, rfl⟩
      · cases e
      · repeat (go_big_quiet_step (first
          | (go_at_call 38; exact Calls.quiet_of (HR.out _))
          | (go_at_call 41; exact Calls.quiet_of (HNW.out _))
          | (go_at_call 43; exact Calls.quiet_of (HW.out _))
          | (go_at_call 35; exact Calls.quiet_of (HO.out _))
          | (go_at_call 34; exact Calls.quiet_of (HNR.out _))
          | (go_at_call 39; exact Calls.quiet_of (HL.out _))
          | (go_at_call 44; exact Calls.quiet_of (HRM.out _))))
        refine wpQuiet_nil ?_
        exact ⟨_, _, _, _, _, _, _, _, _, _, _, _, _, _, _, _, _, _, _, _, _, _, _, _, _, _, _, _, _, _, _, _, _, _, _, _, _, _, _, _, _, _, _, _, _, _, _, _, _, _, _, _, _, _, rfl⟩
      · have b2 : decide (0 < room) = true := by simpa using i2
        repeat (go_big_quiet_step (first
          | (go_at_call 38; exact Calls.quiet_of (HR.out _))
          | (go_at_call 41; exact Calls.quiet_of (HNW.out _))
          | (go_at_call 43; exact Calls.quiet_of (HW.out _))
          | (go_at_call 35; exact Calls.quiet_of (HO.out _))
          | (go_at_call 34; exact Calls.quiet_of (HNR.out _))
          | (go_at_call 39; exact Calls.quiet_of (HL.out _))
          | (go_at_call 44; exact Calls.quiet_of (HRM.out _))))
        refine wpQuiet_nil ?_
        exact ⟨_, _, _, _, _, _, _, _, _, _, _, _, _, _, _, _, _, _, _, _, _, _, _, _, _, _, _, _, _, _, _, _, _, _, _, _, _, _, _, _, _, _, _, _, _, _, _, _, _, _, _, _, _, _, rfl⟩
      all_goals
        subst i2
        repeat (go_big_quiet_step (first
          | (go_at_call 38; exact Calls.quiet_of (HR.out _))
          | (go_at_call 41; exact Calls.quiet_of (HNW.out _))
          | (go_at_call 43; exact Calls.quiet_of (HW.out _))
          | (go_at_call 35; exact Calls.quiet_of (HO.out _))
          | (go_at_call 34; exact Calls.quiet_of (HNR.out _))
          | (go_at_call 39; exact Calls.quiet_of (HL.out _))
          | (go_at_call 44; exact Calls.quiet_of (HRM.out _))))
        refine wpQuiet_nil ?_
        exact ⟨_, _, _, _, _, _, _, _, _, _, _, _, _, _, _, _, _, _, _, _, _, _, _, _, _, _, _, _, _, _, _, _, _, _, _, _, _, _, _, _, _, _, _, _, _, _, _, _, _, _, _, _, _, _, rfl⟩
  rintro _ ⟨v8, v9, v10, v11, v12, v13, v14, v15, v16, v17, v18, v19, v20, v21, v22, v23, v24, v25, v26, v27, v28, v29, v30, v31, v32, v33, v34, v36, v37, v38, v39, v40, v41, v42, v43, v44, v45, v46, v47, v48, v49, v50, v51, v52, v53, v54, v55, v56, v57, v58, v59, v60, v61, v62, rfl⟩
  simp only [List.drop_succ_cons, List.drop_zero]
  clear HU g1
  repeat (go_big_quiet_step (first
          | (go_at_call 38; exact Calls.quiet_of (HR.out _))
          | (go_at_call 41; exact Calls.quiet_of (HNW.out _))
          | (go_at_call 43; exact Calls.quiet_of (HW.out _))
          | (go_at_call 35; exact Calls.quiet_of (HO.out _))
          | (go_at_call 34; exact Calls.quiet_of (HNR.out _))
          | (go_at_call 39; exact Calls.quiet_of (HL.out _))
          | (go_at_call 44; exact Calls.quiet_of (HRM.out _))))
  refine wpQuiet_nil ?_
  rintro _ ⟨nq, rfl⟩
  go_wp2_with fail
  have hq := (((((((show Blk (W.drewN nq) w.heap.size 37 #[.bool false, .bool false, .bool false, .bool false, .bool false, .int .u64 0, .int .u64 0] from HB.out).set_ 0 (.bool true)).set_ 1 (.bool rin)).set_ 2 (.bool out)).set_ 3 (.bool (z == 3))).set_ 4 (.bool rs)).set_ 5 (.int .u64 (rd : Int))).set_ 6 (.int .u64 (wr : Int))
  have hQ : Blk ((((((((W.drewN nq).setCell ⟨w.heap.size, 0, none⟩ (.bool true)).setCell ⟨w.heap.size, 1, none⟩ (.bool rin)).setCell ⟨w.heap.size, 2, none⟩ (.bool out)).setCell ⟨w.heap.size, 3, none⟩ (.bool (z == 3))).setCell ⟨w.heap.size, 4, none⟩ (.bool rs)).setCell ⟨w.heap.size, 5, none⟩ (.int .u64 (rd : Int))).setCell ⟨w.heap.size, 6, none⟩ (.int .u64 (wr : Int))) w.heap.size 37 #[.bool true, .bool rin, .bool out, .bool (z == 3), .bool rs, .int .u64 (rd : Int), .int .u64 (wr : Int)] := by
    exact hq
  clear hq
  refine bodyPost_ret (results_cell_row rfl _ _ w.heap.size _ _ _ _ rfl hQ rfl rfl rfl) rfl ?_
  have hz : (z == 3) = nr := by rw [← HS.out]; rfl
  refine ⟨?_, ?_⟩
  · unfold rdyV; rw [hz]
  · exact ((((((((HK.out.drewN nq).setCell_new (p := ⟨w.heap.size, 0, none⟩) (Nat.le_refl _) _).setCell_new (p := ⟨w.heap.size, 1, none⟩) (Nat.le_refl _) _).setCell_new (p := ⟨w.heap.size, 2, none⟩) (Nat.le_refl _) _).setCell_new (p := ⟨w.heap.size, 3, none⟩) (Nat.le_refl _) _).setCell_new (p := ⟨w.heap.size, 4, none⟩) (Nat.le_refl _) _).setCell_new (p := ⟨w.heap.size, 5, none⟩) (Nat.le_refl _) _).setCell_new (p := ⟨w.heap.size, 6, none⟩) (Nat.le_refl _) _)
end
end Go.Proofs.YtjejpgognfadoaaGreatDoor
