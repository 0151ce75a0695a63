/-
  A heap: the calls that change it: Push, Move, Pop, Take, and New.
-/
import Derived.Test.YtncdohbdmpfefaaHpHeap
namespace Go.Proofs.Ytncdohbdmpfefaa
open Go.RowKit Go.Maps Go.ChangeMaps Go.Sort

/-- An item where it belongs. -/
def ins (x : It) : List It → List It
  | [] => [x]
  | y :: S => if Lt y x then y :: ins x S else x :: y :: S
/-- Without the item of a number. -/
def del (k : Int) (S : List It) : List It := S.filter fun y => decide (y.id ≠ k)

theorem ins_perm (x : It) : ∀ S, (ins x S).Perm (x :: S)
  | [] => List.Perm.refl _
  | y :: S => by
    unfold ins
    split
    · exact ((ins_perm x S).cons y).trans (List.Perm.swap _ _ _)
    · exact List.Perm.refl _
theorem ins_srt {x : It} : ∀ {S : List It}, Srt S → (∀ y ∈ S, y.id ≠ x.id) → Srt (ins x S)
  | [], _, _ => List.pairwise_singleton _ _
  | y :: S, hs, hx => by
    obtain ⟨h1, h2⟩ := List.pairwise_cons.1 hs
    unfold ins
    split
    · rename_i hl
      refine List.pairwise_cons.2 ⟨fun z hz => ?_, ins_srt h2 fun z hz => hx z (List.mem_cons_of_mem _ hz)⟩
      rcases List.mem_cons.1 ((ins_perm x S).mem_iff.1 hz) with rfl | hz
      · exact hl
      · exact h1 z hz
    · rename_i hl
      have hxy : Lt x y := lt_of_le_ne hl (fun e => hx y (List.mem_cons_self) e.symm)
      refine List.pairwise_cons.2 ⟨fun z hz => ?_, hs⟩
      rcases List.mem_cons.1 hz with rfl | hz
      · exact hxy
      · exact lt_trans hxy (h1 z hz)
theorem del_srt {k : Int} {S : List It} (h : Srt S) : Srt (del k S) := List.Pairwise.filter _ h
theorem del_mem {k : Int} {S : List It} {y : It} : y ∈ del k S ↔ y ∈ S ∧ y.id ≠ k := by simp [del]
theorem del_perm {x : It} : ∀ {S : List It}, Uniq S → x ∈ S → (x :: del x.id S).Perm S
  | [], _, h => by simp at h
  | y :: S, hu, h => by
    have hu' : (∀ z ∈ S, z.id ≠ y.id) ∧ Uniq S := by
      unfold Uniq at *
      rw [List.map_cons, List.nodup_cons] at hu
      exact ⟨fun z hz e => hu.1 (e ▸ List.mem_map_of_mem hz), hu.2⟩
    by_cases e : y.id = x.id
    · have hxy : x = y := by
        rcases List.mem_cons.1 h with h | h
        · exact h
        · exact absurd e.symm (hu'.1 x h)
      subst hxy
      have : del x.id (x :: S) = S := by
        unfold del
        rw [List.filter_cons_of_neg (by simp)]
        exact List.filter_eq_self.2 fun z hz => by simpa using hu'.1 z hz
      rw [this]
    · have hx : x ∈ S := by
        rcases List.mem_cons.1 h with h | h
        · exact absurd (by rw [h]) e
        · exact h
      have : del x.id (y :: S) = y :: del x.id S := by
        unfold del
        rw [List.filter_cons_of_pos (by simpa using e)]
      rw [this]
      exact (List.Perm.swap _ _ _).trans ((del_perm hu'.2 hx).cons y)
/-- Two orders of the same items are one. -/
theorem srt_unique : ∀ {S T : List It}, Srt S → Srt T → S.Perm T → S = T
  | [], T, _, _, p => (List.Perm.nil_eq p)
  | x :: S, [], _, _, p => by have := p.length_eq; simp at this
  | x :: S, y :: T, hs, ht, p => by
    obtain ⟨h1, h2⟩ := List.pairwise_cons.1 hs
    obtain ⟨k1, k2⟩ := List.pairwise_cons.1 ht
    have e : x = y := by
      rcases List.mem_cons.1 (p.mem_iff.1 (List.mem_cons_self (a := x) (l := S))) with h | h
      · exact h
      · rcases List.mem_cons.1 (p.mem_iff.2 (List.mem_cons_self (a := y) (l := T))) with k | k
        · exact k.symm
        · exact absurd (lt_trans (h1 y k) (k1 x h)) (lt_irrefl _)
    subst e
    rw [srt_unique h2 k2 p.cons_inv]

/-- What a call may have turned: the queue's blocks; and where its row lies then. -/
def Moved (w w' : World) (q m : Nat) (v v' : Value) : Prop := Kept (Fp q m v) w w' ∧ (v'.ownBlock = v.ownBlock ∨ ∃ g, v'.ownBlock = some g ∧ w.heap.size ≤ g)
theorem Moved.of_below {w w' : World} {q m : Nat} {v : Value} (h : Below w.heap.size w w') : Moved w w' q m v v := ⟨Kept.of_below h, .inl rfl⟩
/-- Steps one behind the other. -/
theorem Moved.trans {w w' w'' : World} {q m : Nat} {v v' v'' : Value} (h : Moved w w' q m v v') (k : Moved w' w'' q m v' v'') : Moved w w'' q m v v'' := by
  refine ⟨h.1.andThen k.1 fun i hi hf => ?_, ?_⟩
  · rcases hf with e | e | e
    · exact .inl e
    · exact .inr (.inl e)
    · rcases h.2 with h2 | ⟨g, h2, hg⟩
      · exact .inr (.inr (h2 ▸ e))
      · rw [h2] at e; cases e; omega
  · rcases k.2 with k2 | ⟨g, k2, hg⟩
    · rw [k2]; exact h.2
    · exact .inr ⟨g, k2, Nat.le_trans h.1.size hg⟩

theorem below_drewN {B : Nat} {a b : World} (h : Below B a b) (n : Nat) : Below B a (b.drewN n) := ⟨h.os, h.tape, h.output, h.size, h.block⟩
section
variable {w : World} {B h q m : Nat} {v : Value} {S : List It}
/-- The queue in a world that has the same blocks, and more. -/
theorem que_later {L : List It} {w2 : World} (hQ : Que w B q m v L) (hk : ∀ k, k < w.heap.size → w2.heap[k]? = w.heap[k]?) (hs : w.heap.size ≤ w2.heap.size) : Que w2 B q m v L := by
  obtain ⟨f, hQ', r⟩ := id hQ
  exact hQ.same (fun k e => hk k (hQ'.lt e).1) (Nat.le_trans hQ'.hB hs)

set_option maxHeartbeats 1000000 in
set_option maxRecDepth 100000 in
theorem push_new {x : It} (H : Hp w B h q m v S) (hx : x.Ok) (hn : ∀ y ∈ S, y.id ≠ x.id) (hl : S.length < 1000) : Calls Try.prog 44 #[.pointer (some ⟨h, 0, none⟩), .agg #[.int .i64 x.id, .int .u64 x.d, .int .u64 x.n]] w fun e w' =>
    e = .returned (.int .i64 0) ∧ ∃ v', Hp w' B h q m v' (ins x S) ∧ Moved w w' q m v v' := by
  obtain ⟨L, hq, hpm⟩ := id H.que
  obtain ⟨f, hQ, hp, hh, hu⟩ := id hq
  have hM := Lib.hid (fun o => made_yes (w.alloc o) h q (H.hb.alloc o))
  have c0 := H.hb.cell 0
  have c2 := hQ.blk.cell 1
  simp at c0 c2
  have l1 := H.hb.lt
  have l2 := hQ.blk.lt
  have hnL : ∀ y ∈ L, y.id ≠ x.id := fun y hy => hn y (hpm.mem_iff.1 hy)
  have hlk : ∀ o n, (Instr.lookup 88 (.map (some m)) (.int .i64 x.id) true).run Try.prog ((w.alloc o).drewN n) = .ok (.tuple #[.int .i64 0, .bool false]) ((w.alloc o).drewN n) := fun o n => by
    have := (Pm.same (w' := (w.alloc o).drewN n) (hQ.pm.alloc o) rfl).look x.id hx.1 true
    rw [place_none hp hnL] at this
    exact this
  have HA := Lib.hid (fun (w2 : World) (hk : ∀ k, k < w.heap.size → w2.heap[k]? = w.heap[k]?) (hs : w.heap.size ≤ w2.heap.size) => add_any w2 B q m v L (que_later hq hk hs) x hx hnL (by rw [hpm.length_eq]; exact hl))
  have HF := Lib.hid (And.intro H (And.intro hpm hn))
  clear hpm hu hh hp hQ H hq hn hnL hl hx
  go_enter Try.func44, Try.ntmps44
  go_wp2_with (go_at_call 55; refine (hM.out _).mono ?_; rintro e w' ⟨rfl, rfl⟩)
  go_quiet (fail)
  clear hlk
  go_wp2_with fail
  refine wp_still_tail 5 (by kernel_rfl) (by kernel_rfl) ?_
  simp only [List.take_succ_cons, List.take_zero, List.drop_succ_cons, List.drop_zero]
  repeat still_step
  refine wpStill_nil ?_
  go_wp2_with fail
  refine (HA.out _ ?c1 ?c2).mono ?_
  case c1 => exact fun k hk => Below.heap_alloc w _ k hk
  case c2 => simp
  rintro e w4 ⟨rfl, v', L', hq', hpm', hk', ho'⟩
  have hk4 : Kept (Fp q m v) w w4 := (((Kept.refl _ w).alloc _).drewN _).trans hk'
  obtain ⟨H, hpm, hn⟩ := HF.out
  have hend := Lib.hid (show Hp w4 B h q m v' (ins x S) ∧ Moved w w4 q m v v' from
    ⟨⟨H.hb.kept hk4 H.apart, H.hB, ⟨L', hq', hpm'.trans ((hpm.cons x).trans (ins_perm x S).symm)⟩, ins_srt H.srt hn⟩, hk4, by
      rcases ho' with e | ⟨g, e, hg⟩
      · exact .inl e
      · exact .inr ⟨g, e, by simp at hg; omega⟩⟩)
  clear hk4 H hpm hn hq' hpm' hk' ho'
  go_wp2_with fail
  go_ret
  exact ⟨rfl, v', hend.out⟩
set_option maxHeartbeats 1000000 in
set_option maxRecDepth 100000 in
theorem push_old {x y : It} (H : Hp w B h q m v S) (hx : x.Ok) (hy : y ∈ S) (hxy : y.id = x.id) : Calls Try.prog 44 #[.pointer (some ⟨h, 0, none⟩), .agg #[.int .i64 x.id, .int .u64 x.d, .int .u64 x.n]] w fun e w' =>
    e = .returned (.int .i64 30) ∧ Below w.heap.size w w' := by
  obtain ⟨L, hq, hpm⟩ := id H.que
  obtain ⟨f, hQ, hp, hh, hu⟩ := id hq
  obtain ⟨i, hi⟩ := List.mem_iff_getElem?.1 (hpm.mem_iff.2 hy)
  have hM := Lib.hid (fun o => made_yes (w.alloc o) h q (H.hb.alloc o))
  have c0 := H.hb.cell 0
  have c2 := hQ.blk.cell 1
  simp at c0 c2
  have l1 := H.hb.lt
  have l2 := hQ.blk.lt
  have hlk : ∀ o n, (Instr.lookup 88 (.map (some m)) (.int .i64 x.id) true).run Try.prog ((w.alloc o).drewN n) = .ok (.tuple #[.int .i64 (i : Int), .bool true]) ((w.alloc o).drewN n) := fun o n => by
    have := (Pm.same (w' := (w.alloc o).drewN n) (hQ.pm.alloc o) rfl).look x.id hx.1 true
    rw [← hxy, hp.at_ i y hi] at this
    rw [← hxy]
    exact this
  clear hpm hu hh hp hQ H hq hx hxy hy hi
  go_enter Try.func44, Try.ntmps44
  go_wp2_with (go_at_call 55; refine (hM.out _).mono ?_; rintro e w' ⟨rfl, rfl⟩)
  go_quiet (fail)
  clear hlk
  go_wp2_with fail
  go_ret
  exact ⟨rfl, below_drewN ((Below.refl _ _).alloc (Nat.le_refl _) _) _⟩
end
end Go.Proofs.Ytncdohbdmpfefaa
