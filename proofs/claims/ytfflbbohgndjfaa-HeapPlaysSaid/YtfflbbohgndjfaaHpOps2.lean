/-
  A heap: New, Pop, Take, Move.
-/
import Derived.Test.YtfflbbohgndjfaaHpOps
namespace Go.Proofs.Ytfflbbohgndjfaa
open Go.RowKit Go.Maps Go.ChangeMaps Go.Sort

section
variable {w : World} {B h q m : Nat} {v : Value} {S : List It}
theorem hp_later {w2 : World} (H : Hp w B h q m v S) (hk : ∀ k, k < w.heap.size → w2.heap[k]? = w.heap[k]?) (hs : w.heap.size ≤ w2.heap.size) : Hp w2 B h q m v S :=
  H.same (fun k e => hk k (H.lt e).1) (Nat.le_trans H.base hs)

theorem rem_hp (H : Hp w B h q m v S) {L : List It} (hq : Que w B q m v L) (hpm : L.Perm S) {i : Nat} {x : It} (hi : L[i]? = some x) :
    Calls Try.prog 34 #[.pointer (some ⟨q, 0, none⟩), .int .i64 (i : Int)] w fun e w' =>
      e = .returned (.tuple #[]) ∧ ∃ v', Hp w' B h q m v' (del x.id S) ∧ Moved w w' q m v v' := by
  refine (remove_any w B q m v L hq i (List.getElem?_eq_some_iff.1 hi).1).mono ?_
  rintro e w' ⟨rfl, v', L', hq', hpm', hk', ho'⟩
  rw [itAt_of hi] at hpm'
  have hx : x ∈ S := hpm.mem_iff.1 (List.mem_of_getElem? hi)
  exact ⟨rfl, v', ⟨H.hb.kept hk' H.apart, H.hB, ⟨L', hq', ((hpm'.trans hpm).trans (del_perm H.uniq hx).symm).cons_inv⟩, del_srt H.srt⟩, hk', .inl ho'⟩

theorem del_head {x : It} {S : List It} (h : Uniq (x :: S)) : del x.id (x :: S) = S := by
  unfold Uniq at h
  rw [List.map_cons, List.nodup_cons] at h
  unfold del
  rw [List.filter_cons_of_neg (by simp)]
  refine List.filter_eq_self.2 fun z hz => ?_
  have : z.id ≠ x.id := fun e => h.1 (by rw [← e]; exact List.mem_map_of_mem hz)
  simpa using this

/-- The three stores into a result's block. -/
def set3 (w : World) (g : Nat) (a b c : Value) : World := ((w.setCell ⟨g, 0, none⟩ a).setCell ⟨g, 1, none⟩ b).setCell ⟨g, 2, none⟩ c
theorem set3_other (w : World) (g : Nat) (a b c : Value) {k : Nat} (hk : k ≠ g) : (set3 w g a b c).heap[k]? = w.heap[k]? := by
  unfold set3
  rw [Below.heap_setCell _ _ _ _ hk, Below.heap_setCell _ _ _ _ hk, Below.heap_setCell _ _ _ _ hk]
theorem set3_hp (H : Hp w B h q m v S) {g : Nat} (a b c : Value) (hg : ¬ (g = h ∨ Fp q m v g)) : Hp (set3 w g a b c) B h q m v S :=
  H.same (fun k e => set3_other _ _ _ _ _ (fun e2 => hg (e2 ▸ e))) (by simpa [set3, World.setCell] using H.base)
theorem set3_moved {w4 : World} {v' : Value} (hm : Moved w w4 q m v v') {g : Nat} (a b c : Value) (hg : w.heap.size ≤ g) : Moved w (set3 w4 g a b c) q m v v' :=
  ⟨((hm.1.setCell_new (p := ⟨g, 0, none⟩) hg a).setCell_new (p := ⟨g, 1, none⟩) hg b).setCell_new (p := ⟨g, 2, none⟩) hg c, hm.2⟩
/-- A result's block, new when the call began and older than what the queue then laid, is none of its blocks. -/
theorem res_apart {w2 w4 : World} {v' : Value} (H : Hp w B h q m v S) (hm : Moved w2 w4 q m v v') {g : Nat} (h1 : w.heap.size ≤ g) (h2 : g < w2.heap.size) : ¬ (g = h ∨ Fp q m v' g) := by
  rintro (e | e | e | e)
  · have := (H.lt (k := g) (.inl e)).1; omega
  · have := (H.lt (k := g) (.inr (.inl e))).1; omega
  · have := (H.lt (k := g) (.inr (.inr (.inl e)))).1; omega
  · rcases hm.2 with e2 | ⟨g', e2, hg⟩
    · have := (H.lt (k := g) (.inr (.inr (.inr (e2 ▸ e))))).1; omega
    · rw [e2] at e; cases e; omega

set_option maxHeartbeats 1000000 in
set_option maxRecDepth 100000 in
theorem pop_some {x : It} (H : Hp w B h q m v (x :: S)) : Calls Try.prog 13 #[.pointer (some ⟨h, 0, none⟩)] w fun e w' =>
    e = .returned (.tuple #[.agg #[.int .i64 x.id, .int .u64 x.d, .int .u64 x.n], .bool true]) ∧ ∃ v', Hp w' B h q m v' S ∧ Moved w w' q m v v' := by
  obtain ⟨R, hR⟩ : ∃ R, R = w.alloc (.cells #[.int .i64 0, .int .u64 0, .int .u64 0] 31) := ⟨_, rfl⟩
  have hkR : Kept (fun _ => False) w R := by rw [hR]; exact (Kept.refl _ w).alloc _
  have hbR : Blk R w.heap.size 31 #[.int .i64 0, .int .u64 0, .int .u64 0] := by rw [hR]; exact Blk.new _ _ _
  have HR : Hp R B h q m v (x :: S) := H.kept hkR (fun _ _ e => e)
  have HT := Lib.hid (top_some HR)
  have HF := Lib.hid (And.intro hkR (And.intro hbR HR))
  have hR' := Lib.hid hR
  clear hR hkR hbR HR
  have hs := Lib.hid (fun k e => (H.lt (k := k) e).1)
  have H0 := Lib.hid H
  clear H
  go_enter Try.func13, Try.ntmps13
  go_wp2_with fail
  rw [← hR'.out]
  refine HT.out.mono ?_
  rintro e w2 ⟨rfl, hb2⟩
  obtain ⟨hkR, hbR, HR⟩ := HF.out
  have H2 := HR.below hb2
  have hr2 : Blk w2 w.heap.size 31 #[.int .i64 0, .int .u64 0, .int .u64 0] := hbR.kept (Kept.of_below (F := fun _ => False) hb2) (fun e => e)
  have hz : w.heap.size < w2.heap.size := Nat.lt_of_lt_of_le hbR.lt hb2.size
  have hk2 : Kept (fun _ => False) w w2 := hkR.trans (Kept.of_below hb2)
  obtain ⟨L, hq2, hpm⟩ := id H2.que
  have hl : 0 < L.length := by rw [hpm.length_eq]; simp
  obtain ⟨f, hQ, hp, hh, hu⟩ := id hq2
  have hi : L[0]? = some x := by rw [itAt_some hl, root_first hh hpm H2.srt]
  have c0 := H2.hb.cell 0
  simp at c0
  have l1 := H2.hb.lt
  have hX := fun (o : Obj) => rem_hp (w := w2.alloc o) (hp_later H2 (fun k hk => Below.heap_alloc _ _ _ hk) (by simp)) (que_later hq2 (fun k hk => Below.heap_alloc _ _ _ hk) (by simp)) hpm hi
  rw [del_head H2.uniq] at hX
  have HX := Lib.hid hX
  have HK := Lib.hid (And.intro hk2 hr2)
  clear hX hi hu hh hp hQ hl hpm hq2 H2 HR hbR hkR hb2 hk2 hr2
  go_wp2_with fail
  refine (HX.out _).mono ?_
  rintro e w4 ⟨rfl, v', H4, hm4⟩
  obtain ⟨hk2, hr2⟩ := HK.out
  have hx4 : Blk w4 w2.heap.size 31 #[.int .i64 x.id, .int .u64 x.d, .int .u64 x.n] :=
    (Blk.new w2 _ _).kept hm4.1 (fun e => by have := hs.out _ (.inr e); omega)
  have hr4 : Blk w4 w.heap.size 31 #[.int .i64 0, .int .u64 0, .int .u64 0] := (hr2.alloc _).kept hm4.1 (fun e => by have := hs.out _ (.inr e); omega)
  have y0 := hx4.cell 0
  have y1 := hx4.cell 1
  have y2 := hx4.cell 2
  have r0 := hr4.cell 0
  have r1 := hr4.cell 1
  have r2 := hr4.cell 2
  have rf := hr4.frozen
  simp at y0 y1 y2 r0 r1 r2
  have hrl := hr4.lt
  have hne1 : w.heap.size ≠ w2.heap.size := by omega
  have hne2 : w2.heap.size ≠ w.heap.size := by omega
  have hkk : Moved w w4 q m v v' := by
    refine ⟨((hk2.mono (fun _ _ e => e.elim)).alloc _).trans hm4.1, ?_⟩
    rcases hm4.2 with e | ⟨g, e, hg⟩
    · exact .inl e
    · exact .inr ⟨g, e, by simp at hg; omega⟩
  have HE := Lib.hid (And.intro (set3_hp H4 (.int .i64 x.id) (.int .u64 x.d) (.int .u64 x.n) (res_apart H0.out hm4 (Nat.le_refl _) (by simp; omega))) (set3_moved hkk (.int .i64 x.id) (.int .u64 x.d) (.int .u64 x.n) (Nat.le_refl _)))
  clear hx4 hr4 hkk hm4 H4 hk2 hr2 c0
  go_wp2_with fail
  refine bodyPost_ret (v := .tuple #[.agg #[.int .i64 x.id, .int .u64 x.d, .int .u64 x.n], .bool true]) ?_ rfl ⟨rfl, v', ?_⟩
  · simp [results, Try.results13, go_sem, hrl, r0, r1, r2]
  · exact HE.out
set_option maxHeartbeats 1000000 in
set_option maxRecDepth 100000 in
theorem pop_none (H : Hp w B h q m v []) : Calls Try.prog 13 #[.pointer (some ⟨h, 0, none⟩)] w fun e w' =>
    e = .returned (.tuple #[.agg #[.int .i64 0, .int .u64 0, .int .u64 0], .bool false]) ∧ Below w.heap.size w w' := by
  obtain ⟨R, hR⟩ : ∃ R, R = w.alloc (.cells #[.int .i64 0, .int .u64 0, .int .u64 0] 31) := ⟨_, rfl⟩
  have hkR : Below w.heap.size w R := by rw [hR]; exact (Below.refl _ w).alloc (Nat.le_refl _) _
  have hbR : Blk R w.heap.size 31 #[.int .i64 0, .int .u64 0, .int .u64 0] := by rw [hR]; exact Blk.new _ _ _
  have HT := Lib.hid (top_none (H.below hkR))
  have HF := Lib.hid (And.intro hkR hbR)
  have hR' := Lib.hid hR
  clear hR hkR hbR H 
  go_enter Try.func13, Try.ntmps13
  go_wp2_with fail
  rw [← hR'.out]
  refine HT.out.mono ?_
  rintro e w2 ⟨rfl, hb2⟩
  obtain ⟨hkR, hbR⟩ := HF.out
  have hr2 : Blk w2 w.heap.size 31 #[.int .i64 0, .int .u64 0, .int .u64 0] := hbR.kept (Kept.of_below (F := fun _ => False) hb2) (fun e => e)
  have hz : w.heap.size < w2.heap.size := Nat.lt_of_lt_of_le hbR.lt hb2.size
  have hk2 := hkR.trans (hb2.mono hkR.size)
  have r0 := hr2.cell 0
  have r1 := hr2.cell 1
  have r2 := hr2.cell 2
  have rf := hr2.frozen
  simp at r0 r1 r2
  have hne1 : w.heap.size ≠ w2.heap.size := by omega
  have hne2 : w2.heap.size ≠ w.heap.size := by omega
  have HE := Lib.hid ((((hk2.setCell (p := ⟨w.heap.size, 0, none⟩) (Nat.le_refl _) (.int .i64 0)).setCell (p := ⟨w.heap.size, 1, none⟩) (Nat.le_refl _) (.int .u64 0)).setCell (p := ⟨w.heap.size, 2, none⟩) (Nat.le_refl _) (.int .u64 0)).alloc (by simp [World.setCell]; omega) (.cells #[.int .i64 0, .int .u64 0, .int .u64 0] 31))
  clear hr2 hk2 hb2 hbR hkR
  go_wp2_with fail
  refine bodyPost_ret (v := .tuple #[.agg #[.int .i64 0, .int .u64 0, .int .u64 0], .bool false]) ?_ rfl ⟨rfl, ?_⟩
  · simp [results, Try.results13, go_sem, hz, r0, r1, r2, hne1, hne2]
  · exact HE.out
set_option maxHeartbeats 1000000 in
set_option maxRecDepth 100000 in
theorem take_none {k : Int} (H : Hp w B h q m v S) (hk : -9223372036854775808 ≤ k ∧ k ≤ 9223372036854775807) (hx : ∀ y ∈ S, y.id ≠ k) : Calls Try.prog 16 #[.pointer (some ⟨h, 0, none⟩), .int .i64 k] w fun e w' =>
    e = .returned (.tuple #[.agg #[.int .i64 0, .int .u64 0, .int .u64 0], .bool false]) ∧ Below w.heap.size w w' := by
  obtain ⟨R, hR⟩ : ∃ R, R = w.alloc (.cells #[.int .i64 0, .int .u64 0, .int .u64 0] 31) := ⟨_, rfl⟩
  have hkR : Below w.heap.size w R := by rw [hR]; exact (Below.refl _ w).alloc (Nat.le_refl _) _
  have hbR : Blk R w.heap.size 31 #[.int .i64 0, .int .u64 0, .int .u64 0] := by rw [hR]; exact Blk.new _ _ _
  have HT := Lib.hid (find_none (H.below hkR) hk hx)
  have HF := Lib.hid (And.intro hkR hbR)
  have hR' := Lib.hid hR
  clear hR hkR hbR H hx
  go_enter Try.func16, Try.ntmps16
  go_wp2_with fail
  rw [← hR'.out]
  refine HT.out.mono ?_
  rintro e w2 ⟨rfl, hb2⟩
  obtain ⟨hkR, hbR⟩ := HF.out
  have hr2 : Blk w2 w.heap.size 31 #[.int .i64 0, .int .u64 0, .int .u64 0] := hbR.kept (Kept.of_below (F := fun _ => False) hb2) (fun e => e)
  have hz : w.heap.size < w2.heap.size := Nat.lt_of_lt_of_le hbR.lt hb2.size
  have hk2 := hkR.trans (hb2.mono hkR.size)
  have r0 := hr2.cell 0
  have r1 := hr2.cell 1
  have r2 := hr2.cell 2
  have rf := hr2.frozen
  simp at r0 r1 r2
  have hne1 : w.heap.size ≠ w2.heap.size := by omega
  have hne2 : w2.heap.size ≠ w.heap.size := by omega
  have HE := Lib.hid ((((hk2.setCell (p := ⟨w.heap.size, 0, none⟩) (Nat.le_refl _) (.int .i64 0)).setCell (p := ⟨w.heap.size, 1, none⟩) (Nat.le_refl _) (.int .u64 0)).setCell (p := ⟨w.heap.size, 2, none⟩) (Nat.le_refl _) (.int .u64 0)).alloc (by simp [World.setCell]; omega) (.cells #[.int .i64 0, .int .u64 0, .int .u64 0] 31))
  clear hr2 hk2 hb2 hbR hkR
  go_wp2_with fail
  refine bodyPost_ret (v := .tuple #[.agg #[.int .i64 0, .int .u64 0, .int .u64 0], .bool false]) ?_ rfl ⟨rfl, ?_⟩
  · simp [results, Try.results16, go_sem, hz, r0, r1, r2, hne1, hne2]
  · exact HE.out
set_option maxHeartbeats 1000000 in
set_option maxRecDepth 100000 in
theorem take_some {x : It} (H : Hp w B h q m v S) (hx : x ∈ S) : Calls Try.prog 16 #[.pointer (some ⟨h, 0, none⟩), .int .i64 x.id] w fun e w' =>
    e = .returned (.tuple #[.agg #[.int .i64 x.id, .int .u64 x.d, .int .u64 x.n], .bool true]) ∧ ∃ v', Hp w' B h q m v' (del x.id S) ∧ Moved w w' q m v v' := by
  obtain ⟨R, hR⟩ : ∃ R, R = w.alloc (.cells #[.int .i64 0, .int .u64 0, .int .u64 0] 31) := ⟨_, rfl⟩
  have hkR : Kept (fun _ => False) w R := by rw [hR]; exact (Kept.refl _ w).alloc _
  have hbR : Blk R w.heap.size 31 #[.int .i64 0, .int .u64 0, .int .u64 0] := by rw [hR]; exact Blk.new _ _ _
  have HR : Hp R B h q m v S := H.kept hkR (fun _ _ e => e)
  have HT := Lib.hid (find_some HR hx)
  have HF := Lib.hid (And.intro hkR (And.intro hbR HR))
  have hR' := Lib.hid hR
  clear hR hkR hbR HR
  have hs := Lib.hid (fun k e => (H.lt (k := k) e).1)
  have H0 := Lib.hid H
  clear H
  go_enter Try.func16, Try.ntmps16
  go_wp2_with fail
  rw [← hR'.out]
  refine HT.out.mono ?_
  rintro e w2 ⟨rfl, hb2⟩
  obtain ⟨hkR, hbR, HR⟩ := HF.out
  have H2 := HR.below hb2
  have hr2 : Blk w2 w.heap.size 31 #[.int .i64 0, .int .u64 0, .int .u64 0] := hbR.kept (Kept.of_below (F := fun _ => False) hb2) (fun e => e)
  have hz : w.heap.size < w2.heap.size := Nat.lt_of_lt_of_le hbR.lt hb2.size
  have hk2 : Kept (fun _ => False) w w2 := hkR.trans (Kept.of_below hb2)
  obtain ⟨L, hq2, hpm⟩ := id H2.que
  obtain ⟨f, hQ, hp, hh, hu⟩ := id hq2
  obtain ⟨i, hi⟩ := List.mem_iff_getElem?.1 (hpm.mem_iff.2 hx)
  have c2 := hQ.blk.cell 1
  simp at c2
  have l2 := hQ.blk.lt
  have hlk : ∀ o, (Instr.lookup 51 (.map (some m)) (.int .i64 x.id) false).run Try.prog ((w2.alloc o).drew) = .ok (.int .i64 (i : Int)) ((w2.alloc o).drew) := fun o => by
    have := (Pm.same (w' := (w2.alloc o).drew) (hQ.pm.alloc o) rfl).look x.id (H2.ok x hx).1 false
    rw [hp.at_ i x hi] at this
    exact this
  have c0 := H2.hb.cell 0
  simp at c0
  have l1 := H2.hb.lt
  have hX := fun (o : Obj) => rem_hp (w := (w2.alloc o).drew) (hp_later H2 (fun k hk => Below.heap_alloc _ _ _ hk) (by simp)) (que_later hq2 (fun k hk => Below.heap_alloc _ _ _ hk) (by simp)) hpm hi
  have HX := Lib.hid hX
  have HK := Lib.hid (And.intro hk2 hr2)
  clear hX hi hu hh hp hQ hpm hq2 H2 HR hbR hkR hb2 hk2 hr2
  go_wp2_with fail
  refine wp_still_tail 13 (by kernel_rfl) (by kernel_rfl) ?_
  simp only [List.take_succ_cons, List.take_zero, List.drop_succ_cons, List.drop_zero]
  repeat still_step
  refine wpStill_nil ?_
  clear hlk c2
  go_wp2_with fail
  refine (HX.out _).mono ?_
  rintro e w4 ⟨rfl, v', H4, hm4⟩
  obtain ⟨hk2, hr2⟩ := HK.out
  have hx4 : Blk w4 w2.heap.size 31 #[.int .i64 x.id, .int .u64 x.d, .int .u64 x.n] :=
    Blk.kept (w := (w2.alloc (.cells #[.int .i64 x.id, .int .u64 x.d, .int .u64 x.n] 31)).drew) (Blk.new w2 _ _) hm4.1 (fun e => by have := hs.out _ (.inr e); omega)
  have hr4 : Blk w4 w.heap.size 31 #[.int .i64 0, .int .u64 0, .int .u64 0] := Blk.kept (w := (w2.alloc (.cells #[.int .i64 x.id, .int .u64 x.d, .int .u64 x.n] 31)).drew) (hr2.alloc _) hm4.1 (fun e => by have := hs.out _ (.inr e); omega)
  have y0 := hx4.cell 0
  have y1 := hx4.cell 1
  have y2 := hx4.cell 2
  have r0 := hr4.cell 0
  have r1 := hr4.cell 1
  have r2 := hr4.cell 2
  have rf := hr4.frozen
  simp at y0 y1 y2 r0 r1 r2
  have hrl := hr4.lt
  have hne1 : w.heap.size ≠ w2.heap.size := by omega
  have hne2 : w2.heap.size ≠ w.heap.size := by omega
  have hkk : Moved w w4 q m v v' := by
    refine ⟨((hk2.mono (fun _ _ e => e.elim)).alloc _).drew.trans hm4.1, ?_⟩
    rcases hm4.2 with e | ⟨g, e, hg⟩
    · exact .inl e
    · exact .inr ⟨g, e, by simp at hg; omega⟩
  have HE := Lib.hid (And.intro (set3_hp H4 (.int .i64 x.id) (.int .u64 x.d) (.int .u64 x.n) (res_apart H0.out hm4 (Nat.le_refl _) (by simp; omega))) (set3_moved hkk (.int .i64 x.id) (.int .u64 x.d) (.int .u64 x.n) (Nat.le_refl _)))
  clear hx4 hr4 hkk hm4 H4 hk2 hr2 c0
  go_wp2_with fail
  refine bodyPost_ret (v := .tuple #[.agg #[.int .i64 x.id, .int .u64 x.d, .int .u64 x.n], .bool true]) ?_ rfl ⟨rfl, v', ?_⟩
  · simp [results, Try.results16, go_sem, hrl, r0, r1, r2]
  · exact HE.out

theorem places_set {L : List It} {f : Int → Option Nat} {i : Nat} {x y : It} (h : Places L f) (hu : Uniq L) (hi : L[i]? = some x) (hy : y.id = x.id) : Places (L.set i y) (updF f y.id (some i)) := by
  have hil := (List.getElem?_eq_some_iff.1 hi).1
  refine ⟨fun j z hz => ?_, fun k v hk => ?_⟩
  · have hjl : j < L.length := by have := (List.getElem?_eq_some_iff.1 hz).1; simpa using this
    rw [List.getElem?_set] at hz
    unfold updF
    by_cases e : i = j
    · subst e; rw [if_pos rfl, if_pos hil] at hz; cases hz; rw [if_pos rfl]
    · rw [if_neg e] at hz
      rw [if_neg (by rw [hy]; exact hu.ne hz hi (Ne.symm e))]
      exact h.at_ j z hz
  · unfold updF at hk
    have hm : y ∈ L.set i y := List.mem_of_getElem? (i := i) (by rw [List.getElem?_set, if_pos rfl, if_pos hil])
    by_cases e : k = y.id
    · exact ⟨y, hm, e.symm⟩
    · rw [if_neg e] at hk
      obtain ⟨z, hz, ez⟩ := h.of_ k v hk
      obtain ⟨j, hj⟩ := List.mem_iff_getElem?.1 hz
      refine ⟨z, List.mem_of_getElem? (i := j) ?_, ez⟩
      rw [List.getElem?_set, if_neg (fun e2 => ?_)]
      · exact hj
      · subst e2
        rw [hi] at hj
        cases hj
        exact e (by rw [← ez, hy])
theorem uniq_set {L : List It} {i : Nat} {x y : It} (hu : Uniq L) (hi : L[i]? = some x) (hy : y.id = x.id) : Uniq (L.set i y) := by
  have : (L.set i y).map It.id = L.map It.id := by
    rw [List.map_set, hy]
    apply List.ext_getElem?
    intro j
    rw [List.getElem?_set]
    by_cases e : i = j
    · subst e
      have hil := (List.getElem?_eq_some_iff.1 hi).1
      rw [if_pos rfl, if_pos (by simpa using hil), List.getElem?_map, hi]
      rfl
    · rw [if_neg e]
  unfold Uniq at *
  rw [this]
  exact hu

set_option maxHeartbeats 1000000 in
set_option maxRecDepth 100000 in
theorem move_some {x : It} (H : Hp w B h q m v S) (hx : x ∈ S) (d n : Int) (hd : 0 ≤ d ∧ d ≤ 18446744073709551615) (hn : 0 ≤ n ∧ n ≤ 18446744073709551615) : Calls Try.prog 17 #[.pointer (some ⟨h, 0, none⟩), .int .i64 x.id, .int .u64 d, .int .u64 n] w fun e w' =>
    e = .returned (.int .i64 0) ∧ ∃ v', Hp w' B h q m v' (ins ⟨x.id, d, n⟩ (del x.id S)) ∧ Moved w w' q m v v' := by
  obtain ⟨L, hq, hpm⟩ := id H.que
  obtain ⟨f, hQ, hp, hh, hu⟩ := id hq
  obtain ⟨i, hi⟩ := List.mem_iff_getElem?.1 (hpm.mem_iff.2 hx)
  have hil := (List.getElem?_eq_some_iff.1 hi).1
  have hM := Lib.hid (made_yes w h q H.hb)
  have c0 := H.hb.cell 0
  have c2 := hQ.blk.cell 1
  simp at c0 c2
  have l1 := H.hb.lt
  have l2 := hQ.blk.lt
  have hlk : (Instr.lookup 51 (.map (some m)) (.int .i64 x.id) true).run Try.prog w = .ok (.tuple #[.int .i64 (i : Int), .bool true]) w := by
    have := hQ.pm.look x.id (H.ok x hx).1 true
    rw [hp.at_ i x hi] at this
    exact this
  have hok : It.Ok ⟨x.id, d, n⟩ := ⟨(H.ok x hx).1, hd, hn⟩
  have HR := Lib.hid (replace_any w B q m L.length L.length v L f hQ i ⟨x.id, d, n⟩ hil hok hQ.len hQ.len (by simp [hp.at_ i x hi]) (uniq_set hu hi rfl) (places_set hp hu hi rfl) (rising_start hh i _ hil))
  have hpm2 : (L.set i ⟨x.id, d, n⟩).Perm (⟨x.id, d, n⟩ :: del x.id S) := by
    have h1 := set_perm_cons L i ⟨x.id, d, n⟩ hil
    rw [itAt_of hi] at h1
    have h2 := (h1.trans ((hpm.trans (del_perm H.uniq hx).symm).cons _)).trans (List.Perm.swap _ _ _)
    exact h2.cons_inv
  have HF := Lib.hid (And.intro H (And.intro hpm2 (uniq_set (y := ⟨x.id, d, n⟩) hu hi rfl)))
  clear hpm hpm2 hu hh hp hQ H hq hok hx hi hil hd hn
  go_enter Try.func17, Try.ntmps17
  go_wp2_with (go_at_call 30; refine hM.out.mono ?_; rintro e w' ⟨rfl, rfl⟩)
  refine HR.out.mono ?_
  rintro e w4 ⟨rfl, L', f', hQ', hpm', hpl', hh', hk'⟩
  obtain ⟨H, hpm2, hu2⟩ := HF.out
  have hl : L'.length = L.length := by rw [hpm'.length_eq, List.length_set]
  have hk4 : Kept (Fp q m v) w w4 := hk'.mono (fun k _ e => .inr e)
  have hend := Lib.hid (show Hp w4 B h q m v (ins ⟨x.id, d, n⟩ (del x.id S)) ∧ Moved w w4 q m v v from
    ⟨⟨H.hb.kept hk4 H.apart, H.hB, ⟨L', ⟨f', by rw [hl]; exact hQ', hpl', hh', hu2.perm hpm'⟩, (hpm'.trans hpm2).trans (ins_perm _ _).symm⟩, ins_srt (del_srt H.srt) (fun y hy => (del_mem.1 hy).2)⟩, hk4, .inl rfl⟩)
  clear hk4 H hpm2 hu2 hl hQ' hpm' hpl' hh' hk'
  go_wp2_with fail
  go_ret
  exact ⟨rfl, v, hend.out⟩
set_option maxHeartbeats 1000000 in
theorem move_none {k : Int} (H : Hp w B h q m v S) (hk : -9223372036854775808 ≤ k ∧ k ≤ 9223372036854775807) (hx : ∀ y ∈ S, y.id ≠ k) (d n : Int) : Calls Try.prog 17 #[.pointer (some ⟨h, 0, none⟩), .int .i64 k, .int .u64 d, .int .u64 n] w fun e w' =>
    e = .returned (.int .i64 30) ∧ w = w' := by
  obtain ⟨L, hq, hpm⟩ := id H.que
  obtain ⟨f, hQ, hp, hh, hu⟩ := id hq
  have hM := Lib.hid (made_yes w h q H.hb)
  have c0 := H.hb.cell 0
  have c2 := hQ.blk.cell 1
  simp at c0 c2
  have hlk : (Instr.lookup 51 (.map (some m)) (.int .i64 k) true).run Try.prog w = .ok (.tuple #[.int .i64 0, .bool false]) w := by
    have := hQ.pm.look k hk true
    rw [place_none hp (fun y hy => hx y (hpm.mem_iff.1 hy))] at this
    exact this
  clear hpm hu hh hp hQ H hq hx
  go_enter Try.func17, Try.ntmps17
  go_wp2_with (go_at_call 30; refine hM.out.mono ?_; rintro e w' ⟨rfl, rfl⟩)
  go_ret
  exact ⟨rfl, rfl⟩
end

/-- New: a heap without items, all of whose blocks are new. -/
theorem new_any (w : World) (B : Nat) (hB : B ≤ w.heap.size) : Calls Try.prog 10 #[] w fun e w' =>
    ∃ h q m v, e = .returned (.pointer (some ⟨h, 0, none⟩)) ∧ Hp w' B h q m v [] ∧ Below w.heap.size w w' ∧ w.heap.size ≤ h ∧ w.heap.size ≤ q ∧ w.heap.size ≤ m ∧ v.ownBlock = none := by
  have hmm := @run_makeMap Try.prog
  go_enter Try.func10, Try.ntmps10
  go_wp2
  go_ret
  refine ⟨w.heap.size + 1 + 1, w.heap.size + 1, w.heap.size, .slice none 0 0, rfl, ?_, (((Below.refl _ w).alloc (Nat.le_refl _) _).alloc (by simp) _).alloc (by simp; omega) _, by omega, by omega, by omega, rfl⟩
  have e1 : (w.alloc (.map #[] 0)).heap.size = w.heap.size + 1 := World.size_alloc _ _
  have e2 : ((w.alloc (.map #[] 0)).alloc (.cells #[.slice none 0 0, .map (some w.heap.size)] 59)).heap.size = w.heap.size + 1 + 1 := by rw [World.size_alloc, e1]
  have b1 := Blk.new (w.alloc (.map #[] 0)) 59 #[.slice none 0 0, .map (some w.heap.size)]
  rw [e1] at b1
  have b2 := Blk.new ((w.alloc (.map #[] 0)).alloc (.cells #[.slice none 0 0, .map (some w.heap.size)] 59)) 49 #[.pointer (some ⟨w.heap.size + 1, 0, none⟩)]
  rw [e2] at b2
  exact ⟨b2, by omega, ⟨[], ⟨fun _ => none, ⟨b1.alloc _, ⟨rfl, .inl ⟨rfl, rfl⟩⟩, ((Pm.made w).alloc _).alloc _, by omega, hB, by simp; omega, by simp, by simp⟩,
    ⟨fun j x hx => by simp at hx, fun k v hk => by cases hk⟩, fun j _ hj => by simp at hj, List.nodup_nil⟩, List.Perm.refl _⟩, List.Pairwise.nil⟩
end Go.Proofs.Ytfflbbohgndjfaa
