/-
  The reference's calls.
-/
import Derived.Test.YtfflbbohgndjfaaHpPutR
namespace Go.Proofs.Ytfflbbohgndjfaa
open Go.RowKit Go.Maps Go.ChangeMaps Go.Sort

section
variable {w : World} {B r : Nat} {v : Value} {S : List It}
theorem put_ref (R : Rf w B r v S) (hlen : S.length ≤ 1000) (x : It) : Calls Try.prog 33 #[.pointer (some ⟨r, 0, none⟩), .agg #[.int .i64 x.id, .int .u64 x.d, .int .u64 x.n]] w fun e w' =>
    e = .returned (.tuple #[]) ∧ ∃ v', Rf w' B r v' (ins x S) ∧ RM w w' r v v' := by
  rcases R.row.cap with ⟨rfl, rfl⟩ | ⟨g, c, rfl, hc, _, _, _⟩
  · exact put_nil R x
  · exact put_g R hlen hc x
theorem rpush_any (R : Rf w B r v S) (hlen : S.length ≤ 1000) (hu : Uniq S) (x : It) : Calls Try.prog 12 #[.pointer (some ⟨r, 0, none⟩), .agg #[.int .i64 x.id, .int .u64 x.d, .int .u64 x.n]] w fun e w' =>
    e = .returned (.int .i64 (pushE S x.id)) ∧ ∃ v', Rf w' B r v' (addS S x) ∧ RM w w' r v v' := by
  obtain ⟨W, hW⟩ : ∃ W, W = w.alloc (.cells #[.int .i64 x.id, .int .u64 x.d, .int .u64 x.n] 31) := ⟨_, rfl⟩
  have bW : Below w.heap.size w W := by rw [hW]; exact (Below.refl _ w).alloc (Nat.le_refl _) _
  have X : Blk W w.heap.size 31 #[.int .i64 x.id, .int .u64 x.d, .int .u64 x.n] := by rw [hW]; exact Blk.new _ _ _
  have R' := R.below bW
  have HW := Lib.hid hW
  have t0 := X.cell 0
  have t1 := X.cell 1
  have t2 := X.cell 2
  simp at t0 t1 t2
  unfold pushE addS
  cases e : hasId S x.id with
  | true =>
    obtain ⟨y, hy, hxy⟩ := hasId_true.1 e
    obtain ⟨j, hj⟩ := List.mem_iff_getElem?.1 hy
    have hP := Lib.hid (place_some R' hlen hu hj)
    rw [hxy] at hP
    have b0 : ¬ (j : Int) < 0 := by omega
    have b1 : (0 : Int) ≤ (j : Int) := by omega
    have HF := Lib.hid (And.intro R' (RM.of_below (r := r) (v := v) bW))
    clear hW X R' bW R hj hy hxy hu
    simp only [if_true]
    go_enter Try.func12, Try.ntmps12
    go_wp2_with fail
    rw [← HW.out]
    refine hP.out.mono ?_
    rintro e w' ⟨rfl, rfl⟩
    go_wp2_with fail
    go_ret
    exact ⟨rfl, v, HF.out.1, HF.out.2⟩
  | false =>
    have hP := Lib.hid (place_no R' hlen (hasId_false.1 e))
    have hQ := Lib.hid (put_ref R' hlen x)
    have HF := Lib.hid (RM.of_below (r := r) (v := v) bW)
    clear hW X R' bW R hu
    simp only [Bool.false_eq_true, if_false]
    go_enter Try.func12, Try.ntmps12
    go_wp2_with fail
    rw [← HW.out]
    refine hP.out.mono ?_
    rintro e w' ⟨rfl, rfl⟩
    go_wp2_with fail
    refine hQ.out.mono ?_
    rintro e w3 ⟨rfl, v', R3, k3⟩
    have H3 := Lib.hid (And.intro R3 (HF.out.trans k3))
    clear R3 k3
    go_wp2_with fail
    go_ret
    exact ⟨rfl, v', H3.out.1, H3.out.2⟩

theorem rmove_some (R : Rf w B r v S) (hlen : S.length ≤ 1000) (hu : Uniq S) {x : It} (hx : x ∈ S) (d n : Int) : Calls Try.prog 18 #[.pointer (some ⟨r, 0, none⟩), .int .i64 x.id, .int .u64 d, .int .u64 n] w fun e w' =>
    e = .returned (.int .i64 0) ∧ ∃ v', Rf w' B r v' (ins ⟨x.id, d, n⟩ (del x.id S)) ∧ RM w w' r v v' := by
  obtain ⟨j, hj⟩ := List.mem_iff_getElem?.1 hx
  have hP := Lib.hid (place_some R hlen hu hj)
  have hC := Lib.hid (cut_any R hlen hu hj)
  have hdl : (del x.id S).length ≤ 1000 := Nat.le_trans (List.length_filter_le _ _) hlen
  have b0 : ¬ (j : Int) < 0 := by omega
  have b1 : (0 : Int) ≤ (j : Int) := by omega
  clear R hu hx hj
  go_enter Try.func18, Try.ntmps18
  go_wp2_with fail
  refine hP.out.mono ?_
  rintro e w1 ⟨rfl, rfl⟩
  go_wp2_with fail
  refine hC.out.mono ?_
  rintro e w2 ⟨rfl, v2, R2, k2⟩
  have hQ := Lib.hid (put_ref R2 hdl ⟨x.id, d, n⟩)
  have H2 := Lib.hid k2
  clear R2 k2
  go_wp2_with fail
  refine hQ.out.mono ?_
  rintro e w3 ⟨rfl, v', R3, k3⟩
  have H3 := Lib.hid (And.intro R3 (H2.out.trans k3))
  clear R3 k3
  go_wp2_with fail
  go_ret
  exact ⟨rfl, v', H3.out.1, H3.out.2⟩
theorem rmove_none (R : Rf w B r v S) (hlen : S.length ≤ 1000) {k : Int} (hk : ∀ y ∈ S, y.id ≠ k) (d n : Int) : Calls Try.prog 18 #[.pointer (some ⟨r, 0, none⟩), .int .i64 k, .int .u64 d, .int .u64 n] w fun e w' =>
    e = .returned (.int .i64 30) ∧ w = w' := by
  have hP := Lib.hid (place_no R hlen hk)
  clear R hk
  go_enter Try.func18, Try.ntmps18
  go_wp2_with fail
  refine hP.out.mono ?_
  rintro e w1 ⟨rfl, rfl⟩
  go_wp2_with fail
  go_ret
  exact ⟨rfl, rfl⟩
theorem rfind_none (R : Rf w B r v S) (hlen : S.length ≤ 1000) {k : Int} (hk : ∀ y ∈ S, y.id ≠ k) : Calls Try.prog 20 #[.pointer (some ⟨r, 0, none⟩), .int .i64 k] w fun e w' =>
    e = .returned (.tuple #[.agg #[.int .i64 0, .int .u64 0, .int .u64 0], .bool false]) ∧ Below w.heap.size w w' := by
  have hP := Lib.hid (fun o => place_no (R.below ((Below.refl _ w).alloc (Nat.le_refl _) o)) hlen hk)
  clear R hk
  go_enter Try.func20, Try.ntmps20
  go_wp2_with fail
  refine (hP.out _).mono ?_
  rintro e w1 ⟨rfl, rfl⟩
  go_wp2_with fail
  exact bodyPost_ret (v := .tuple #[.agg #[.int .i64 0, .int .u64 0, .int .u64 0], .bool false]) (by simp [results, Try.results20, go_sem]) rfl ⟨rfl, (Below.refl _ _).alloc (Nat.le_refl _) _⟩
theorem rfind_some (R : Rf w B r v S) (hlen : S.length ≤ 1000) (hu : Uniq S) {x : It} (hx : x ∈ S) : Calls Try.prog 20 #[.pointer (some ⟨r, 0, none⟩), .int .i64 x.id] w fun e w' =>
    e = .returned (.tuple #[.agg #[.int .i64 x.id, .int .u64 x.d, .int .u64 x.n], .bool true]) ∧ Below w.heap.size w w' := by
  obtain ⟨j, hj⟩ := List.mem_iff_getElem?.1 hx
  have hjl := (List.getElem?_eq_some_iff.1 hj).1
  have hP := Lib.hid (fun o => place_some (R.below ((Below.refl _ w).alloc (Nat.le_refl _) o)) hlen hu hj)
  rcases R.row.cap with ⟨_, rfl⟩ | ⟨g, c, rfl, hc, hg, _, hrow⟩
  · simp at hx
  obtain ⟨x0, x1, x2⟩ := hrow j x hj
  have c0 := R.blk.cell 0
  have rl := R.blk.lt
  simp at c0
  have b0 : ¬ (j : Int) < 0 := by omega
  have b1 : (0 : Int) ≤ (j : Int) := by omega
  have b2 : (j : Int) < (S.length : Int) := by omega
  clear R hu hx hj hrow
  go_enter Try.func20, Try.ntmps20
  go_wp2_with fail
  refine (hP.out _).mono ?_
  rintro e w1 ⟨rfl, rfl⟩
  go_wp2_with fail
  exact bodyPost_ret (v := .tuple #[.agg #[.int .i64 x.id, .int .u64 x.d, .int .u64 x.n], .bool true]) (by simp [results, Try.results20, go_sem]) rfl ⟨rfl, (Below.refl _ _).alloc (Nat.le_refl _) _⟩
theorem rtop_none (R : Rf w B r v []) : Calls Try.prog 14 #[.pointer (some ⟨r, 0, none⟩)] w fun e w' =>
    e = .returned (.tuple #[.agg #[.int .i64 0, .int .u64 0, .int .u64 0], .bool false]) ∧ Below w.heap.size w w' := by
  obtain ⟨A, c, hv, -, -⟩ := R.row.shows
  subst hv
  have c0 := R.blk.cell 0
  have rl := R.blk.lt
  simp at c0
  clear R
  go_enter Try.func14, Try.ntmps14
  go_wp2_with fail
  exact bodyPost_ret (v := .tuple #[.agg #[.int .i64 0, .int .u64 0, .int .u64 0], .bool false]) (by simp [results, Try.results14, go_sem]) rfl ⟨rfl, (Below.refl _ _).alloc (Nat.le_refl _) _⟩
theorem rtop_some {x : It} (R : Rf w B r v (x :: S)) : Calls Try.prog 14 #[.pointer (some ⟨r, 0, none⟩)] w fun e w' =>
    e = .returned (.tuple #[.agg #[.int .i64 x.id, .int .u64 x.d, .int .u64 x.n], .bool true]) ∧ Below w.heap.size w w' := by
  rcases R.row.cap with ⟨_, h⟩ | ⟨g, c, rfl, hc, hg, _, hrow⟩
  · cases h
  obtain ⟨x0, x1, x2⟩ := hrow 0 x rfl
  simp only [Nat.zero_mul, Nat.zero_add] at x0 x1 x2
  have c0 := R.blk.cell 0
  have rl := R.blk.lt
  simp at c0
  have hne : (((x :: S).length : Int) == 0) = false := by simp; omega
  have l3 : (0 : Int) < (S.length : Int) + 1 := by omega
  clear R hrow
  go_enter Try.func14, Try.ntmps14
  go_wp2_with fail
  exact bodyPost_ret (v := .tuple #[.agg #[.int .i64 x.id, .int .u64 x.d, .int .u64 x.n], .bool true]) (by simp [results, Try.results14, go_sem]) rfl ⟨rfl, (Below.refl _ _).alloc (Nat.le_refl _) _⟩
set_option maxHeartbeats 1000000 in
set_option maxRecDepth 100000 in
theorem rtake_none (R0 : Rf w B r v S) (hlen : S.length ≤ 1000) {k : Int} (hx : ∀ y ∈ S, y.id ≠ k) : Calls Try.prog 15 #[.pointer (some ⟨r, 0, none⟩), .int .i64 k] w fun e w' =>
    e = .returned (.tuple #[.agg #[.int .i64 0, .int .u64 0, .int .u64 0], .bool false]) ∧ Below w.heap.size w w' := by
  obtain ⟨R, hR⟩ : ∃ R, R = w.alloc (.cells #[.int .i64 0, .int .u64 0, .int .u64 0] 31) := ⟨_, rfl⟩
  have hkR : Below w.heap.size w R := by rw [hR]; exact (Below.refl _ w).alloc (Nat.le_refl _) _
  have hbR : Blk R w.heap.size 31 #[.int .i64 0, .int .u64 0, .int .u64 0] := by rw [hR]; exact Blk.new _ _ _
  have HT := Lib.hid (rfind_none (R0.below hkR) hlen hx)
  have HF := Lib.hid (And.intro hkR hbR)
  have hR' := Lib.hid hR
  clear hR hkR hbR R0 hx
  go_enter Try.func15, Try.ntmps15
  go_wp2_with fail
  rw [← hR'.out]
  refine HT.out.mono ?_
  rintro e w2 ⟨rfl, hb2⟩
  obtain ⟨hkR, hbR⟩ := HF.out
  have hr2 : Blk w2 w.heap.size 31 #[.int .i64 0, .int .u64 0, .int .u64 0] := hbR.kept (Kept.of_below (F := fun _ => False) hb2) (fun e => e)
  have hz : w.heap.size < w2.heap.size := Nat.lt_of_lt_of_le hbR.lt hb2.size
  have hk2 := hkR.trans (hb2.mono hkR.size)
  have r0 := hr2.cell 0
  have r1 := hr2.cell 1
  have r2 := hr2.cell 2
  have rf := hr2.frozen
  simp at r0 r1 r2
  have hne1 : w.heap.size ≠ w2.heap.size := by omega
  have hne2 : w2.heap.size ≠ w.heap.size := by omega
  have HE := Lib.hid ((((hk2.alloc (by omega) (.cells #[.int .i64 0, .int .u64 0, .int .u64 0] 31)).setCell (p := ⟨w.heap.size, 0, none⟩) (Nat.le_refl _) (.int .i64 0)).setCell (p := ⟨w.heap.size, 1, none⟩) (Nat.le_refl _) (.int .u64 0)).setCell (p := ⟨w.heap.size, 2, none⟩) (Nat.le_refl _) (.int .u64 0))
  have HE2 := Lib.hid ((((hk2.setCell (p := ⟨w.heap.size, 0, none⟩) (Nat.le_refl _) (.int .i64 0)).setCell (p := ⟨w.heap.size, 1, none⟩) (Nat.le_refl _) (.int .u64 0)).setCell (p := ⟨w.heap.size, 2, none⟩) (Nat.le_refl _) (.int .u64 0)).alloc (by simp [World.setCell]; omega) (.cells #[.int .i64 0, .int .u64 0, .int .u64 0] 31))
  clear hr2 hk2 hb2 hbR hkR
  go_wp2_with fail
  refine bodyPost_ret (v := .tuple #[.agg #[.int .i64 0, .int .u64 0, .int .u64 0], .bool false]) ?_ rfl ⟨rfl, ?_⟩
  · simp [results, Try.results15, go_sem, hz, r0, r1, r2, hne1, hne2]
  · first | exact HE.out | exact HE2.out
set_option maxHeartbeats 1000000 in
set_option maxRecDepth 100000 in
theorem rtake_some (R0 : Rf w B r v S) (hlen : S.length ≤ 1000) (hu : Uniq S) {x : It} (hx : x ∈ S) : Calls Try.prog 15 #[.pointer (some ⟨r, 0, none⟩), .int .i64 x.id] w fun e w' =>
    e = .returned (.tuple #[.agg #[.int .i64 x.id, .int .u64 x.d, .int .u64 x.n], .bool true]) ∧ ∃ v', Rf w' B r v' (del x.id S) ∧ RM w w' r v v' := by
  obtain ⟨j, hj⟩ := List.mem_iff_getElem?.1 hx
  obtain ⟨R, hR⟩ : ∃ R, R = w.alloc (.cells #[.int .i64 0, .int .u64 0, .int .u64 0] 31) := ⟨_, rfl⟩
  have hkR : Below w.heap.size w R := by rw [hR]; exact (Below.refl _ w).alloc (Nat.le_refl _) _
  have hbR : Blk R w.heap.size 31 #[.int .i64 0, .int .u64 0, .int .u64 0] := by rw [hR]; exact Blk.new _ _ _
  have rl := R0.blk.lt
  have hvl := Lib.hid (fun k (e : v.ownBlock = some k) => (own_lt R0.row e).1)
  have HT := Lib.hid (rfind_some (R0.below hkR) hlen hu hx)
  have HF := Lib.hid (And.intro hkR (And.intro hbR (R0.below hkR)))
  have hR' := Lib.hid hR
  clear hR hkR hbR R0
  go_enter Try.func15, Try.ntmps15
  go_wp2_with fail
  rw [← hR'.out]
  refine HT.out.mono ?_
  rintro e w2 ⟨rfl, hb2⟩
  obtain ⟨hkR, hbR, R1⟩ := HF.out
  have ba : Below w2.heap.size w2 (w2.alloc (.cells #[.int .i64 x.id, .int .u64 x.d, .int .u64 x.n] 31)) := (Below.refl _ w2).alloc (Nat.le_refl _) _
  have R2 := (R1.below hb2).below ba
  have hr2 : Blk w2 w.heap.size 31 #[.int .i64 0, .int .u64 0, .int .u64 0] := hbR.kept (Kept.of_below (F := fun _ => False) hb2) (fun e => e)
  have hz : w.heap.size < w2.heap.size := Nat.lt_of_lt_of_le hbR.lt hb2.size
  have hk2 := hkR.trans (hb2.mono hkR.size)
  have hP := Lib.hid (place_some R2 hlen hu hj)
  have hC := Lib.hid (cut_any R2 hlen hu hj)
  have HK := Lib.hid (And.intro (hk2.alloc hk2.size (.cells #[.int .i64 x.id, .int .u64 x.d, .int .u64 x.n] 31)) (And.intro (hr2.alloc (.cells #[.int .i64 x.id, .int .u64 x.d, .int .u64 x.n] 31)) (Blk.new w2 31 #[.int .i64 x.id, .int .u64 x.d, .int .u64 x.n])))
  clear R1 R2 ba hb2 hkR hbR hk2 hr2 hu hx hj
  go_wp2_with fail
  refine hP.out.mono ?_
  rintro e w3 ⟨rfl, rfl⟩
  go_wp2_with fail
  refine hC.out.mono ?_
  rintro e w4 ⟨rfl, v', R4, m4⟩
  have hr4 := HK.out.2.1.kept m4.1 (by omega)
  have hx4 := HK.out.2.2.kept m4.1 (by omega)
  have y0 := hx4.cell 0
  have y1 := hx4.cell 1
  have y2 := hx4.cell 2
  have r0 := hr4.cell 0
  have r1 := hr4.cell 1
  have r2 := hr4.cell 2
  have rf := hr4.frozen
  simp at y0 y1 y2 r0 r1 r2
  have hrl := hr4.lt
  have hne1 : w.heap.size ≠ w2.heap.size := by omega
  have hne2 : w2.heap.size ≠ w.heap.size := by omega
  have kS : Kept (fun k => k = w.heap.size) w4 (set3 w4 w.heap.size (.int .i64 x.id) (.int .u64 x.d) (.int .u64 x.n)) := Kept.setCell (F := fun k => k = w.heap.size) (Kept.setCell (F := fun k => k = w.heap.size) (Kept.setCell (F := fun k => k = w.heap.size) (Kept.refl _ w4) (p := ⟨w.heap.size, 0, none⟩) rfl (.int .i64 x.id)) (p := ⟨w.heap.size, 1, none⟩) rfl (.int .u64 x.d)) (p := ⟨w.heap.size, 2, none⟩) rfl (.int .u64 x.n)
  have hfr : ∀ k, v'.ownBlock = some k → k ≠ w.heap.size := fun k e => by
    rcases m4.2 with rfl | h
    · have := hvl.out k e; omega
    · have := h k e; rw [World.size_alloc] at this; omega
  have RS := R4.kept kS (by omega) (fun i e => hfr i e)
  have MS : RM w (set3 w4 w.heap.size (.int .i64 x.id) (.int .u64 x.d) (.int .u64 x.n)) r v v' := by
    refine ⟨((((Kept.of_below HK.out.1).trans m4.1).setCell_new (p := ⟨w.heap.size, 0, none⟩) (Nat.le_refl _) (.int .i64 x.id)).setCell_new (p := ⟨w.heap.size, 1, none⟩) (Nat.le_refl _) (.int .u64 x.d)).setCell_new (p := ⟨w.heap.size, 2, none⟩) (Nat.le_refl _) (.int .u64 x.n), ?_⟩
    rcases m4.2 with e | h
    · exact .inl e
    · exact .inr fun k e => by have := h k e; rw [World.size_alloc] at this; omega
  have HE := Lib.hid (And.intro RS MS)
  clear hx4 hr4 kS hfr RS MS R4 m4
  go_wp2_with fail
  refine bodyPost_ret (v := .tuple #[.agg #[.int .i64 x.id, .int .u64 x.d, .int .u64 x.n], .bool true]) ?_ rfl ⟨rfl, v', ?_⟩
  · simp [results, Try.results15, go_sem, hrl, r0, r1, r2]
  · exact HE.out
end
end Go.Proofs.Ytfflbbohgndjfaa
