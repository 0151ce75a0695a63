/-
  A heap: New, Take.
-/
import Derived.Test.YtncdohbdmpfefaaHpOps
namespace Go.Proofs.Ytncdohbdmpfefaa
open Go.RowKit Go.Maps Go.ChangeMaps Go.Sort

section
variable {w : World} {B h q m : Nat} {v : Value} {S : List It}
theorem hp_later {w2 : World} (H : Hp w B h q m v S) (hk : ∀ k, k < w.heap.size → w2.heap[k]? = w.heap[k]?) (hs : w.heap.size ≤ w2.heap.size) : Hp w2 B h q m v S :=
  H.same (fun k e => hk k (H.lt e).1) (Nat.le_trans H.base hs)

theorem rem_hp (H : Hp w B h q m v S) {L : List It} (hq : Que w B q m v L) (hpm : L.Perm S) {i : Nat} {x : It} (hi : L[i]? = some x) :
    Calls Try.prog 58 #[.pointer (some ⟨q, 0, none⟩), .int .i64 (i : Int)] w fun e w' =>
      e = .returned (.tuple #[]) ∧ ∃ v', Hp w' B h q m v' (del x.id S) ∧ Moved w w' q m v v' := by
  refine (remove_any w B q m v L hq i (List.getElem?_eq_some_iff.1 hi).1).mono ?_
  rintro e w' ⟨rfl, v', L', hq', hpm', hk', ho'⟩
  rw [itAt_of hi] at hpm'
  have hx : x ∈ S := hpm.mem_iff.1 (List.mem_of_getElem? hi)
  exact ⟨rfl, v', ⟨H.hb.kept hk' H.apart, H.hB, ⟨L', hq', ((hpm'.trans hpm).trans (del_perm H.uniq hx).symm).cons_inv⟩, del_srt H.srt⟩, hk', .inl ho'⟩

theorem del_head {x : It} {S : List It} (h : Uniq (x :: S)) : del x.id (x :: S) = S := by
  unfold Uniq at h
  rw [List.map_cons, List.nodup_cons] at h
  unfold del
  rw [List.filter_cons_of_neg (by simp)]
  refine List.filter_eq_self.2 fun z hz => ?_
  have : z.id ≠ x.id := fun e => h.1 (by rw [← e]; exact List.mem_map_of_mem hz)
  simpa using this

/-- The three stores into a result's block. -/
def set3 (w : World) (g : Nat) (a b c : Value) : World := ((w.setCell ⟨g, 0, none⟩ a).setCell ⟨g, 1, none⟩ b).setCell ⟨g, 2, none⟩ c
theorem set3_other (w : World) (g : Nat) (a b c : Value) {k : Nat} (hk : k ≠ g) : (set3 w g a b c).heap[k]? = w.heap[k]? := by
  unfold set3
  rw [Below.heap_setCell _ _ _ _ hk, Below.heap_setCell _ _ _ _ hk, Below.heap_setCell _ _ _ _ hk]
theorem set3_hp (H : Hp w B h q m v S) {g : Nat} (a b c : Value) (hg : ¬ (g = h ∨ Fp q m v g)) : Hp (set3 w g a b c) B h q m v S :=
  H.same (fun k e => set3_other _ _ _ _ _ (fun e2 => hg (e2 ▸ e))) (by simpa [set3, World.setCell] using H.base)
theorem set3_moved {w4 : World} {v' : Value} (hm : Moved w w4 q m v v') {g : Nat} (a b c : Value) (hg : w.heap.size ≤ g) : Moved w (set3 w4 g a b c) q m v v' :=
  ⟨((hm.1.setCell_new (p := ⟨g, 0, none⟩) hg a).setCell_new (p := ⟨g, 1, none⟩) hg b).setCell_new (p := ⟨g, 2, none⟩) hg c, hm.2⟩
/-- A result's block, new when the call began and older than what the queue then laid, is none of its blocks. -/
theorem res_apart {w2 w4 : World} {v' : Value} (H : Hp w B h q m v S) (hm : Moved w2 w4 q m v v') {g : Nat} (h1 : w.heap.size ≤ g) (h2 : g < w2.heap.size) : ¬ (g = h ∨ Fp q m v' g) := by
  rintro (e | e | e | e)
  · have := (H.lt (k := g) (.inl e)).1; omega
  · have := (H.lt (k := g) (.inr (.inl e))).1; omega
  · have := (H.lt (k := g) (.inr (.inr (.inl e)))).1; omega
  · rcases hm.2 with e2 | ⟨g', e2, hg⟩
    · have := (H.lt (k := g) (.inr (.inr (.inr (e2 ▸ e))))).1; omega
    · rw [e2] at e; cases e; omega

set_option maxHeartbeats 1000000 in
set_option maxRecDepth 100000 in
theorem take_none {k : Int} (H : Hp w B h q m v S) (hk : -9223372036854775808 ≤ k ∧ k ≤ 9223372036854775807) (hx : ∀ y ∈ S, y.id ≠ k) : Calls Try.prog 47 #[.pointer (some ⟨h, 0, none⟩), .int .i64 k] w fun e w' =>
    e = .returned (.tuple #[.agg #[.int .i64 0, .int .u64 0, .int .u64 0], .bool false]) ∧ Below w.heap.size w w' := by
  obtain ⟨R, hR⟩ : ∃ R, R = w.alloc (.cells #[.int .i64 0, .int .u64 0, .int .u64 0] 44) := ⟨_, rfl⟩
  have hkR : Below w.heap.size w R := by rw [hR]; exact (Below.refl _ w).alloc (Nat.le_refl _) _
  have hbR : Blk R w.heap.size 44 #[.int .i64 0, .int .u64 0, .int .u64 0] := by rw [hR]; exact Blk.new _ _ _
  have HT := Lib.hid (find_none (H.below hkR) hk hx)
  have HF := Lib.hid (And.intro hkR hbR)
  have hR' := Lib.hid hR
  clear hR hkR hbR H hx
  go_enter Try.func47, Try.ntmps47
  go_wp2_with fail
  rw [← hR'.out]
  refine HT.out.mono ?_
  rintro e w2 ⟨rfl, hb2⟩
  obtain ⟨hkR, hbR⟩ := HF.out
  have hr2 : Blk w2 w.heap.size 44 #[.int .i64 0, .int .u64 0, .int .u64 0] := hbR.kept (Kept.of_below (F := fun _ => False) hb2) (fun e => e)
  have hz : w.heap.size < w2.heap.size := Nat.lt_of_lt_of_le hbR.lt hb2.size
  have hk2 := hkR.trans (hb2.mono hkR.size)
  have r0 := hr2.cell 0
  have r1 := hr2.cell 1
  have r2 := hr2.cell 2
  have rf := hr2.frozen
  simp at r0 r1 r2
  have hne1 : w.heap.size ≠ w2.heap.size := by omega
  have hne2 : w2.heap.size ≠ w.heap.size := by omega
  have HE := Lib.hid ((((hk2.setCell (p := ⟨w.heap.size, 0, none⟩) (Nat.le_refl _) (.int .i64 0)).setCell (p := ⟨w.heap.size, 1, none⟩) (Nat.le_refl _) (.int .u64 0)).setCell (p := ⟨w.heap.size, 2, none⟩) (Nat.le_refl _) (.int .u64 0)).alloc (by simp [World.setCell]; omega) (.cells #[.int .i64 0, .int .u64 0, .int .u64 0] 44))
  clear hr2 hk2 hb2 hbR hkR
  go_wp2_with fail
  refine bodyPost_ret (v := .tuple #[.agg #[.int .i64 0, .int .u64 0, .int .u64 0], .bool false]) ?_ rfl ⟨rfl, ?_⟩
  · simp [results, Try.results47, go_sem, hz, r0, r1, r2, hne1, hne2]
  · exact HE.out
set_option maxHeartbeats 1000000 in
set_option maxRecDepth 100000 in
theorem take_some {x : It} (H : Hp w B h q m v S) (hx : x ∈ S) : Calls Try.prog 47 #[.pointer (some ⟨h, 0, none⟩), .int .i64 x.id] w fun e w' =>
    e = .returned (.tuple #[.agg #[.int .i64 x.id, .int .u64 x.d, .int .u64 x.n], .bool true]) ∧ ∃ v', Hp w' B h q m v' (del x.id S) ∧ Moved w w' q m v v' := by
  obtain ⟨R, hR⟩ : ∃ R, R = w.alloc (.cells #[.int .i64 0, .int .u64 0, .int .u64 0] 44) := ⟨_, rfl⟩
  have hkR : Kept (fun _ => False) w R := by rw [hR]; exact (Kept.refl _ w).alloc _
  have hbR : Blk R w.heap.size 44 #[.int .i64 0, .int .u64 0, .int .u64 0] := by rw [hR]; exact Blk.new _ _ _
  have HR : Hp R B h q m v S := H.kept hkR (fun _ _ e => e)
  have HT := Lib.hid (find_some HR hx)
  have HF := Lib.hid (And.intro hkR (And.intro hbR HR))
  have hR' := Lib.hid hR
  clear hR hkR hbR HR
  have hs := Lib.hid (fun k e => (H.lt (k := k) e).1)
  have H0 := Lib.hid H
  clear H
  go_enter Try.func47, Try.ntmps47
  go_wp2_with fail
  rw [← hR'.out]
  refine HT.out.mono ?_
  rintro e w2 ⟨rfl, hb2⟩
  obtain ⟨hkR, hbR, HR⟩ := HF.out
  have H2 := HR.below hb2
  have hr2 : Blk w2 w.heap.size 44 #[.int .i64 0, .int .u64 0, .int .u64 0] := hbR.kept (Kept.of_below (F := fun _ => False) hb2) (fun e => e)
  have hz : w.heap.size < w2.heap.size := Nat.lt_of_lt_of_le hbR.lt hb2.size
  have hk2 : Kept (fun _ => False) w w2 := hkR.trans (Kept.of_below hb2)
  obtain ⟨L, hq2, hpm⟩ := id H2.que
  obtain ⟨f, hQ, hp, hh, hu⟩ := id hq2
  obtain ⟨i, hi⟩ := List.mem_iff_getElem?.1 (hpm.mem_iff.2 hx)
  have c2 := hQ.blk.cell 1
  simp at c2
  have l2 := hQ.blk.lt
  have hlk : ∀ o, (Instr.lookup 88 (.map (some m)) (.int .i64 x.id) false).run Try.prog ((w2.alloc o).drew) = .ok (.int .i64 (i : Int)) ((w2.alloc o).drew) := fun o => by
    have := (Pm.same (w' := (w2.alloc o).drew) (hQ.pm.alloc o) rfl).look x.id (H2.ok x hx).1 false
    rw [hp.at_ i x hi] at this
    exact this
  have c0 := H2.hb.cell 0
  simp at c0
  have l1 := H2.hb.lt
  have hX := fun (o : Obj) => rem_hp (w := (w2.alloc o).drew) (hp_later H2 (fun k hk => Below.heap_alloc _ _ _ hk) (by simp)) (que_later hq2 (fun k hk => Below.heap_alloc _ _ _ hk) (by simp)) hpm hi
  have HX := Lib.hid hX
  have HK := Lib.hid (And.intro hk2 hr2)
  clear hX hi hu hh hp hQ hpm hq2 H2 HR hbR hkR hb2 hk2 hr2
  go_wp2_with fail
  refine wp_still_tail 13 (by kernel_rfl) (by kernel_rfl) ?_
  simp only [List.take_succ_cons, List.take_zero, List.drop_succ_cons, List.drop_zero]
  repeat still_step
  refine wpStill_nil ?_
  clear hlk c2
  go_wp2_with fail
  refine (HX.out _).mono ?_
  rintro e w4 ⟨rfl, v', H4, hm4⟩
  obtain ⟨hk2, hr2⟩ := HK.out
  have hx4 : Blk w4 w2.heap.size 44 #[.int .i64 x.id, .int .u64 x.d, .int .u64 x.n] :=
    Blk.kept (w := (w2.alloc (.cells #[.int .i64 x.id, .int .u64 x.d, .int .u64 x.n] 44)).drew) (Blk.new w2 _ _) hm4.1 (fun e => by have := hs.out _ (.inr e); omega)
  have hr4 : Blk w4 w.heap.size 44 #[.int .i64 0, .int .u64 0, .int .u64 0] := Blk.kept (w := (w2.alloc (.cells #[.int .i64 x.id, .int .u64 x.d, .int .u64 x.n] 44)).drew) (hr2.alloc _) hm4.1 (fun e => by have := hs.out _ (.inr e); omega)
  have y0 := hx4.cell 0
  have y1 := hx4.cell 1
  have y2 := hx4.cell 2
  have r0 := hr4.cell 0
  have r1 := hr4.cell 1
  have r2 := hr4.cell 2
  have rf := hr4.frozen
  simp at y0 y1 y2 r0 r1 r2
  have hrl := hr4.lt
  have hne1 : w.heap.size ≠ w2.heap.size := by omega
  have hne2 : w2.heap.size ≠ w.heap.size := by omega
  have hkk : Moved w w4 q m v v' := by
    refine ⟨((hk2.mono (fun _ _ e => e.elim)).alloc _).drew.trans hm4.1, ?_⟩
    rcases hm4.2 with e | ⟨g, e, hg⟩
    · exact .inl e
    · exact .inr ⟨g, e, by simp at hg; omega⟩
  have HE := Lib.hid (And.intro (set3_hp H4 (.int .i64 x.id) (.int .u64 x.d) (.int .u64 x.n) (res_apart H0.out hm4 (Nat.le_refl _) (by simp; omega))) (set3_moved hkk (.int .i64 x.id) (.int .u64 x.d) (.int .u64 x.n) (Nat.le_refl _)))
  clear hx4 hr4 hkk hm4 H4 hk2 hr2 c0
  go_wp2_with fail
  refine bodyPost_ret (v := .tuple #[.agg #[.int .i64 x.id, .int .u64 x.d, .int .u64 x.n], .bool true]) ?_ rfl ⟨rfl, v', ?_⟩
  · simp [results, Try.results47, go_sem, hrl, r0, r1, r2]
  · exact HE.out

end

/-- New: a heap without items, all of whose blocks are new. -/
theorem new_any (w : World) (B : Nat) (hB : B ≤ w.heap.size) : Calls Try.prog 42 #[] w fun e w' =>
    ∃ h q m v, e = .returned (.pointer (some ⟨h, 0, none⟩)) ∧ Hp w' B h q m v [] ∧ Below w.heap.size w w' ∧ w.heap.size ≤ h ∧ w.heap.size ≤ q ∧ w.heap.size ≤ m ∧ v.ownBlock = none := by
  have hmm := @run_makeMap Try.prog
  go_enter Try.func42, Try.ntmps42
  go_wp2
  go_ret
  refine ⟨w.heap.size + 1 + 1, w.heap.size + 1, w.heap.size, .slice none 0 0, rfl, ?_, (((Below.refl _ w).alloc (Nat.le_refl _) _).alloc (by simp) _).alloc (by simp; omega) _, by omega, by omega, by omega, rfl⟩
  have e1 : (w.alloc (.map #[] 0)).heap.size = w.heap.size + 1 := World.size_alloc _ _
  have e2 : ((w.alloc (.map #[] 0)).alloc (.cells #[.slice none 0 0, .map (some w.heap.size)] 90)).heap.size = w.heap.size + 1 + 1 := by rw [World.size_alloc, e1]
  have b1 := Blk.new (w.alloc (.map #[] 0)) 90 #[.slice none 0 0, .map (some w.heap.size)]
  rw [e1] at b1
  have b2 := Blk.new ((w.alloc (.map #[] 0)).alloc (.cells #[.slice none 0 0, .map (some w.heap.size)] 90)) 93 #[.pointer (some ⟨w.heap.size + 1, 0, none⟩)]
  rw [e2] at b2
  exact ⟨b2, by omega, ⟨[], ⟨fun _ => none, ⟨b1.alloc _, ⟨rfl, .inl ⟨rfl, rfl⟩⟩, ((Pm.made w).alloc _).alloc _, by omega, hB, by simp; omega, by simp, by simp⟩,
    ⟨fun j x hx => by simp at hx, fun k v hk => by cases hk⟩, fun j _ hj => by simp at hj, List.nodup_nil⟩, List.Perm.refl _⟩, List.Pairwise.nil⟩
end Go.Proofs.Ytncdohbdmpfefaa
