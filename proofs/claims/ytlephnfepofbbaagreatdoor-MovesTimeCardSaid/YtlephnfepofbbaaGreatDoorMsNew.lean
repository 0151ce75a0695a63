/-
  New, Left: what a script has.
-/
import Derived.Test.YtlephnfepofbbaaGreatDoorMsSleep
import Derived.Test.YtlephnfepofbbaaGreatDoorMtBase
namespace Go.Proofs.YtlephnfepofbbaaGreatDoor
open Go.RowKit Go.Shelf Go.Maps Go.ChangeMaps

theorem RwsD.zero {N : Nat} {D : Nat → Prop} {ov mvv dv : Value} {ord : List Int} {ms : List Mo} {b : List UInt8} {W : World} (h : RwsD N D ov mvv dv ord ms b W) : RwsD 0 D ov mvv dv ord ms b W := by
  obtain ⟨h1, h2, ⟨ps, e, h3, h4⟩, h5, h6, h7⟩ := h
  exact ⟨RowK.own_more h1 (Nat.zero_le _), h2, ⟨ps, e, RowK.own_more h3 (Nat.zero_le _), fun p hp => ⟨row_own_more (h4 p hp).1 (Nat.zero_le _), (h4 p hp).2⟩⟩, h5, row_own_more h6 (Nat.zero_le _), h7⟩
theorem RwsD.weak {N : Nat} {D D' : Nat → Prop} {ov mvv dv : Value} {ord : List Int} {ms : List Mo} {b : List UInt8} {W : World} (h : RwsD N D ov mvv dv ord ms b W) (hD : ∀ b, D b → D' b) : RwsD N D' ov mvv dv ord ms b W := by
  obtain ⟨h1, h2, ⟨ps, e, h3, h4⟩, h5, h6, h7⟩ := h
  exact ⟨h1, fun k e => hD k (h2 k e), ⟨ps, e, h3, fun p hp => ⟨(h4 p hp).1, fun k e => hD k ((h4 p hp).2 k e)⟩⟩, fun k e => hD k (h5 k e), h6, fun k e => hD k (h7 k e)⟩
theorem Lf.weak {D D' : Nat → Prop} {W : World} {lv : Value} {ps : List Ss} (h : Lf D W lv ps) (hD : ∀ b, D b → D' b) : Lf D' W lv ps := by
  obtain ⟨⟨A, c, h1, h2, h3, h4, h5⟩, h6⟩ := h
  exact ⟨⟨A, c, h1, h2, h3, h4, fun h0 => by
    obtain ⟨g, off, cs, a1, a2, a3, a4⟩ := h5 h0
    exact ⟨g, off, cs, a1, hD g a2, a3, a4⟩⟩, fun p hp => (h6 p hp).weak hD⟩
theorem lf_of {N : Nat} {v : Value} {ps : List Ss} {W : World} (h : PsR N v ps W) {D : Nat → Prop} (hD : ∀ k, N ≤ k → k < W.heap.size → D k) : Lf D W v ps := by
  obtain ⟨A, c, e, h1, h2, h3, h4⟩ := sh_own h.own
  refine ⟨⟨A, c, e, h1, h2, h3, fun h0 => ?_⟩, fun p hp => ((h.all p hp).toD hD).zero⟩
  have hf := RowK.own_form h.own
  rcases h.own.2 with ⟨e2, hn⟩ | ⟨g, cap, cur, e2, hb, hg, _⟩
  · omega
  · rcases hf with ⟨e3, hn⟩ | ⟨g', c', e3, _, _, _, hl⟩
    · rw [hn] at h0; simp at h0
    · rw [e2] at e e3
      injection e with ea eb ec
      injection e3 with fa fb fc
      injection fa with fa
      injection fa with fa _ _
      subst fa
      exact ⟨g, 0, cur, ea.symm, hD g hb (Array.getElem?_eq_some_iff.1 hg).1, hg, hl⟩
theorem lies_all {W : World} {g off : Nat} {ps : List Ss} (h : RT.lies W g off ps) (j : Nat) (u : Value) (hu : (RT.all ps)[j]? = some u) : W.cell? ⟨g, off + j, none⟩ = some u := by
  have hj : j < ps.length * 4 := by
    have := (List.getElem?_eq_some_iff.1 hu).1
    rw [RowK.all_len] at this; exact this
  have hi : j / 4 < ps.length := by omega
  have e : j / 4 * 4 + j % 4 = j := by omega
  have h1 := RT.all_at ps (j / 4) ps[j / 4] (List.getElem?_eq_getElem hi) (j % 4) (show j % 4 < 4 by omega)
  have h2 := h (j / 4) ps[j / 4] (List.getElem?_eq_getElem hi) (j % 4) (show j % 4 < 4 by omega)
  have e' : j / 4 * RT.n + j % 4 = j := e
  rw [e'] at h1 h2
  rw [h2, ← h1, hu]
theorem Lf.src {D : Nat → Prop} {W : World} {lv : Value} {ps : List Ss} (h : Lf D W lv ps) : SrcS (Lt W.heap.size) W lv (ps.map Ss.x) := by
  obtain ⟨⟨A, c, e, h1, h2, h3, h4⟩, h5⟩ := h
  refine ⟨ps.map fun p => (p.x, p.o, p.m), by rw [List.map_map]; rfl, ?_, fun q hq => ?_⟩
  · rw [← rt_all, List.length_map]
    refine ⟨A, c, e, h1, h2, h3, fun h0 => ?_⟩
    obtain ⟨g, off, cs, rfl, a2, a3, a4⟩ := h4 h0
    exact ⟨g, off, rfl, a3.lt, a3.lt, fun j u hu => lies_all a4 j u hu⟩
  · obtain ⟨p, hp, rfl⟩ := List.mem_map.1 hq
    exact (h5 p hp).toR.step
theorem Sk.src {D : Nat → Prop} {kb : Nat} {W : World} {l : List St} {o : List Int} (h : Sk D kb W l o) : ∃ lv ov, Blk W kb 86 #[lv, ov] ∧ SrcS (Lt W.heap.size) W lv l := by
  obtain ⟨lv, ov, ps, h1, h2, h3, rfl, _⟩ := h
  exact ⟨lv, ov, h1, h3.src⟩
theorem fits_of {l : List St} (h : allOk l = true) : Fits l := by
  obtain ⟨h1, h2⟩ := allOk_parts h
  refine ⟨by omega, fun x hx => ?_⟩
  obtain ⟨a, b, _, d⟩ := stOk_parts (h2 x hx)
  refine ⟨by omega, by omega, fun m hm => ?_⟩
  obtain ⟨_, _, _, this, _⟩ := (mvOk_iff m).1 (d m hm)
  omega
set_option maxRecDepth 100000 in
theorem snew_any (l : List St) (v : Value) (w : World) (hT : TabF w) (hx : SrcS (Lt w.heap.size) w v l) (hok : allOk l = true) :
    Calls Tryz.prog 11 #[v] w fun e w' => ∃ kb sb D, e = .returned (.tuple #[.pointer (some ⟨sb, 0, none⟩), .int .i64 0]) ∧ Blk w' sb 88 #[.pointer (some ⟨kb, 0, none⟩)] ∧ Sk D kb w' l [] ∧ (∀ b, D b → w.heap.size ≤ b ∧ b < w'.heap.size) ∧ w.heap.size ≤ sb ∧ ¬ D sb ∧ Below w.heap.size w w' := by
  have hC := checkAll_any l v w hT hx
  have e0 : allE l = 0 := by unfold allE; rw [if_pos hok]
  rw [e0] at hC
  have HC := Lib.hid hC
  have HX := Lib.hid hx
  have HF := Lib.hid (fits_of hok)
  clear hC e0 hok hx hT
  go_enter Tryz.func11, Tryz.ntmps11
  go_wp2_with (first
    | (go_at_call 36; refine HC.out.mono ?_; rintro e w1 ⟨rfl, hb1⟩; have HCL := Lib.hid (clone_any l v w1 ((HX.out.below hb1).weak (fun g _ hg => Nat.lt_of_lt_of_le hg hb1.size)) HF.out); have HB1 := Lib.hid hb1; clear hb1)
    | (go_at_call 37; refine HCL.out.mono ?_; rintro e w2 ⟨cv, ps, rfl, hp, hm, hb2⟩; obtain ⟨A0, n0, c0, rfl⟩ := RowK.own_slice hp.own; have HP := Lib.hid (And.intro hp (And.intro hm hb2)); clear hp hm hb2))
  go_ret2
  obtain ⟨hp, hm, hb2⟩ := HP.out
  have hb1 := HB1.out
  have s1 := hb1.size
  have s2 := hb2.size
  have k1 := Blk.new w2 86 #[.slice A0 n0 c0, .slice none 0 0]
  have k3 := Blk.new (w2.alloc (.cells #[.slice A0 n0 c0, .slice none 0 0] 86)) 88 #[.pointer (some ⟨w2.heap.size, 0, none⟩)]
  have k2 := k1.alloc (.cells #[.pointer (some ⟨w2.heap.size, 0, none⟩)] 88)
  refine ⟨w2.heap.size, w2.heap.size + 1, fun b => w.heap.size ≤ b ∧ b ≤ w2.heap.size, rfl, by simpa using k3, ⟨_, _, ps, k2, ⟨by omega, by omega⟩, ?_, hm, RowK.own_nil _ _, fun k e => by cases e⟩, fun b hb => ⟨hb.1, by simp; omega⟩, by omega, fun h => by omega, ?_⟩
  · refine ((lf_of hp (D := fun b => w.heap.size ≤ b ∧ b < w2.heap.size) (fun k h1 h2 => ⟨by omega, h2⟩)).same (fun b hb => ?_)).weak (fun b hb => ⟨hb.1, Nat.le_of_lt hb.2⟩)
    exact (Below.heap_alloc _ _ _ (by simp; omega)).trans (Below.heap_alloc _ _ _ hb.2)
  · exact ((hb1.trans (hb2.mono s1)).alloc (by omega) _).alloc (by simp; omega) _
set_option maxRecDepth 100000 in
theorem smade_any {sb kb : Nat} {w : World} (h : Blk w sb 88 #[.pointer (some ⟨kb, 0, none⟩)]) : Calls Tryz.prog 38 #[.pointer (some ⟨sb, 0, none⟩)] w fun e w' => e = .returned (.bool true) ∧ w = w' := by
  have c0 : w.cell? ⟨sb, 0, none⟩ = some (.pointer (some ⟨kb, 0, none⟩)) := h.cell 0
  clear h
  go_enter Tryz.func38, Tryz.ntmps38
  go_wp2_with fail
  go_ret
  exact ⟨rfl, rfl⟩
set_option maxRecDepth 100000 in
theorem left_any {sb kb : Nat} {D : Nat → Prop} {w : World} {l : List St} {o : List Int} (h : Blk w sb 88 #[.pointer (some ⟨kb, 0, none⟩)]) (hs : Sk D kb w l o) (hf : Fits l) : Calls Tryz.prog 18 #[.pointer (some ⟨sb, 0, none⟩)] w (CloR l w) := by
  have c0 : w.cell? ⟨sb, 0, none⟩ = some (.pointer (some ⟨kb, 0, none⟩)) := h.cell 0
  obtain ⟨lv, ov, hb, hx⟩ := hs.src
  have c1 : w.cell? ⟨kb, 0, none⟩ = some lv := hb.cell 0
  have HM := Lib.hid (smade_any h)
  have HCL := Lib.hid (clone_any l lv w hx hf)
  obtain ⟨A, c, rfl, _, _, _⟩ := hx.form
  clear h hs hb hx hf
  go_enter Tryz.func18, Tryz.ntmps18
  go_wp2_with (first
    | (go_at_call 38; refine HM.out.mono ?_; rintro e w1 ⟨rfl, rfl⟩)
    | (go_at_call 37; refine HCL.out.mono ?_; rintro e w2 ⟨cv, ps, rfl, hp, hm, hb2⟩; obtain ⟨A0, n0, c0, rfl⟩ := RowK.own_slice hp.own; have HP := Lib.hid (And.intro hp (And.intro hm hb2)); clear hp hm hb2))
  go_ret
  exact ⟨_, ps, rfl, HP.out.1, HP.out.2.1, HP.out.2.2⟩
set_option maxRecDepth 100000 in
theorem wire_neg {p : Nat} {w : World} (h : Calls Tryz.prog 116 #[.pointer (some ⟨p, 0, none⟩), .int .i64 (-1)] w fun e w' => e = .returned (.tuple #[.pointer none, .int .i64 110]) ∧ w = w') : Calls Tryz.prog 81 #[.pointer (some ⟨p, 0, none⟩), .int .i64 (-1)] w fun e w' => e = .returned (.tuple #[.int .i64 0, .int .i64 110]) ∧ w = w' := by
  have HFN := Lib.hid h
  clear h
  go_enter Tryz.func81, Tryz.ntmps81
  go_wp2_with (go_at_call 116; refine HFN.out.mono ?_; rintro e w1 ⟨rfl, rfl⟩)
  go_ret2
  exact ⟨rfl, rfl⟩
set_option maxRecDepth 100000 in
theorem od_made {B0 : Nat} {W0 : World} {p : Nat} {S : Ws} {N : Nat} {D : Nat → Prop} {w : World} (h : Od B0 W0 p S N D w) : Calls Tryz.prog 39 #[.pointer (some ⟨p, 0, none⟩)] w fun e w' => e = .returned (.bool true) ∧ w = w' := by
  obtain ⟨L, rfl, h2, _⟩ := h
  have HFN := Lib.hid (wire_neg (find_no h2 (n := -1) (by unfold Ws.fd; simp)))
  clear h2
  go_enter Tryz.func39, Tryz.ntmps39
  go_wp2_with (go_at_call 81; refine HFN.out.mono ?_; rintro e w1 ⟨rfl, rfl⟩)
  go_ret
  exact ⟨rfl, rfl⟩
set_option maxRecDepth 100000 in
theorem sleep_any {B0 : Nat} {W0 : World} {S0 : Ws} {N : Nat} {D2 : Nat → Prop} {sb kb p : Nat} {hv : Value} {mk : Ws → List Mo → Ws} {P : List St → List Int → Ws → World → Prop} {w : World} (h : Blk w sb 88 #[.pointer (some ⟨kb, 0, none⟩)]) (ho : Od B0 W0 p S0 N D2 w) (C : Cx kb p w.heap.size hv mk P) (hh : hv = .nilFunc ∨ ∃ f x y, hv = .func f x y) {b : Bool} (hA : Ans hv b) (fo : Bool) (rest : Nat) (hr : rest ≤ 18446744073709551615) {l : List St} {o : List Int} {S : Ws} (hP : P l o S (w.alloc (.cells #[hv] 44))) :
    Calls Tryz.prog 12 #[.pointer (some ⟨sb, 0, none⟩), .pointer (some ⟨p, 0, none⟩), .int .u64 (rest : Int), .bool fo, hv] w (SlR mk P b fo rest l o S) := by
  have h1 := h.alloc (.cells #[hv] 44)
  have c0 : (w.alloc (.cells #[hv] 44)).cell? ⟨sb, 0, none⟩ = some (.pointer (some ⟨kb, 0, none⟩)) := h1.cell 0
  have c1 : w.cell? ⟨sb, 0, none⟩ = some (.pointer (some ⟨kb, 0, none⟩)) := h.cell 0
  have HM := Lib.hid (smade_any h1)
  have HO := Lib.hid (od_made (ho.alloc (.cells #[hv] 44)))
  have HS := Lib.hid (sleep_gen C hA fo rest hr hP)
  clear h ho hP h1 C hA
  rcases hh with rfl | ⟨fx, x1, x2, rfl⟩
  all_goals
    go_enter Tryz.func12, Tryz.ntmps12
    go_wp2_with (first
      | (go_at_call 38; refine HM.out.mono ?_; rintro e w1 ⟨rfl, rfl⟩)
      | (go_at_call 39; refine HO.out.mono ?_; rintro e w1 ⟨rfl, rfl⟩)
      | (go_at_call 40; refine HS.out.mono ?_; rintro e w2 ⟨i, l', o', S', he, rfl, hp⟩; have HP := Lib.hid (And.intro he hp); clear he hp))
    go_ret
    exact ⟨i, l', o', S', HP.out.1, rfl, HP.out.2⟩
end Go.Proofs.YtlephnfepofbbaaGreatDoor
