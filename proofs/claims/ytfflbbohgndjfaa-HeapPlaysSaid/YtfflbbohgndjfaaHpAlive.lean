/-
  The statements' own helpers: the chapter's heap, and its first examples.
-/
import Derived.Test.YtfflbbohgndjfaaHpDue2
import Derived.Laws.StructEq
namespace Go.Proofs.Ytfflbbohgndjfaa
open Go.RowKit Go.Maps Go.ChangeMaps Go.Sort

theorem Hp.more {w : World} {B B' h q m : Nat} {v : Value} {S : List It} (H : Hp w B h q m v S) (hB : B' ≤ B) : Hp w B' h q m v S := by
  obtain ⟨L, ⟨f, hQ, r⟩, hp⟩ := H.que
  refine ⟨H.hb, Nat.le_trans hB H.hB, ⟨L, ⟨f, ⟨hQ.blk, OwnIt.more hQ.row hB, hQ.pm, Nat.le_trans hB hQ.hq, Nat.le_trans hB hQ.hm, Nat.le_trans hB hQ.hB, hQ.ok, hQ.len⟩, r⟩, hp⟩, H.srt⟩
/-- What a call on a heap of the law's own turns lies from its base on. -/
theorem Moved.below {w w' : World} {B h q m : Nat} {v v' : Value} {S : List It} (H : Hp w B h q m v S) (hm : Moved w w' q m v v') : Below B w w' :=
  hm.1.below' (fun k hk hf => (H.lt (.inr hf)).2) H.base
theorem some_any (w : World) : Calls Try.prog 27 #[] w fun e w' =>
    ∃ h q m v, e = .returned (.pointer (some ⟨h, 0, none⟩)) ∧ Hp w' w.heap.size h q m v [⟨3, 5, 0⟩, ⟨2, 5, 1⟩, ⟨1, 9, 0⟩] ∧ Below w.heap.size w w' := by
  go_enter Try.func27, Try.ntmps27
  go_wp2_with fail
  refine (new_any w w.heap.size (Nat.le_refl _)).mono ?_
  rintro e w1 ⟨h, q, m, v, rfl, H1, hb1, -⟩
  go_wp2_with fail
  refine (push_new (x := ⟨1, 9, 0⟩) H1 (by decide) (by simp) (by simp)).mono ?_
  rintro e w2 ⟨rfl, v2, H2, hm2⟩
  have hb2 := hm2.below H1
  go_wp2_with fail
  refine (push_new (x := ⟨2, 5, 1⟩) H2 (by decide) (by decide) (by decide)).mono ?_
  rintro e w3 ⟨rfl, v3, H3, hm3⟩
  have hb3 := hm3.below H2
  go_wp2_with fail
  refine (push_new (x := ⟨3, 5, 0⟩) H3 (by decide) (by decide) (by decide)).mono ?_
  rintro e w4 ⟨rfl, v4, H4, hm4⟩
  have hb4 := hm4.below H3
  go_wp2_with fail
  go_ret
  exact ⟨h, q, m, v4, rfl, H4, ((hb1.trans hb2).trans hb3).trans hb4⟩

theorem fp_moved {w w' : World} {q m g : Nat} {v v' : Value} (hm : Moved w w' q m v v') (hg : g < w.heap.size) (hne : ¬ Fp q m v g) : ¬ Fp q m v' g := by
  rintro (e | e | e)
  · exact hne (.inl e)
  · exact hne (.inr (.inl e))
  · rcases hm.2 with e2 | ⟨g', e2, hg'⟩
    · exact hne (.inr (.inr (e2 ▸ e)))
    · rw [e2] at e; cases e; omega
theorem Hp.alloc {w : World} {B h q m : Nat} {v : Value} {S : List It} (H : Hp w B h q m v S) (o : Obj) : Hp (w.alloc o) B h q m v S := H.below ((Below.refl _ w).alloc (Nat.le_refl _) o)
theorem Hp.fresh {w : World} {B h q m : Nat} {v : Value} {S : List It} (H : Hp w B h q m v S) {g : Nat} (hg : w.heap.size ≤ g) : ¬ Fp q m v g := fun e => by have := (H.lt (.inr e)).1; omega

set_option maxHeartbeats 4000000 in
set_option maxRecDepth 100000 in
theorem alive_any (w : World) : Calls Try.prog 28 #[] w fun e w' => e = .returned (.bool true) ∧ Below w.heap.size w w' := by
  go_enter Try.func28, Try.ntmps28
  go_wp2_with fail
  refine (some_any w).mono ?_
  rintro e w1 ⟨h, q, m, v, rfl, H1, hb1⟩
  go_wp2_with fail
  refine (top_some H1).mono ?_
  rintro e w2 ⟨rfl, hb2⟩
  have H2 := (H1.below hb2).alloc (.cells #[.int .i64 3, .int .u64 5, .int .u64 0] 31)
  have A2 := Blk.new w2 31 #[.int .i64 3, .int .u64 5, .int .u64 0]
  have n2 := (H1.below hb2).fresh (Nat.le_refl _)
  have z2 : Below w.heap.size w (w2.alloc (.cells #[.int .i64 3, .int .u64 5, .int .u64 0] 31)) := (hb1.trans (hb2.mono hb1.size)).alloc (by have := hb1.size; have := hb2.size; omega) _
  go_wp2_with fail
  refine (push_old (x := ⟨2, 1, 1⟩) (y := ⟨2, 5, 1⟩) H2 (by decide) (by decide) rfl).mono ?_
  rintro e w3 ⟨rfl, hb3⟩
  have H3 := H2.below hb3
  have A3 := A2.same (hb3.block _ A2.lt)
  have z3 := z2.trans (hb3.mono z2.size)
  go_wp2_with fail
  refine (take_some (x := ⟨3, 5, 0⟩) H3 (by decide)).mono ?_
  rintro e w4 ⟨rfl, v4, H4, hm4⟩
  have A4 := A3.kept hm4.1 n2
  have n4 := fp_moved hm4 A3.lt n2
  have z4 := z3.trans (hm4.below H3)
  have H5 := H4.alloc (.cells #[.int .i64 3, .int .u64 5, .int .u64 0] 31)
  have A5 := A4.alloc (.cells #[.int .i64 3, .int .u64 5, .int .u64 0] 31)
  have B5 := Blk.new w4 31 #[.int .i64 3, .int .u64 5, .int .u64 0]
  have nb5 := H4.fresh (Nat.le_refl _)
  have z5 := z4.alloc z4.size (.cells #[.int .i64 3, .int .u64 5, .int .u64 0] 31)
  go_wp2_with fail
  refine (pop_some (x := ⟨2, 5, 1⟩) (S := [⟨1, 9, 0⟩]) H5).mono ?_
  rintro e w6 ⟨rfl, v6, H6, hm6⟩
  have A6 := (A5.kept hm6.1 n4).cell
  have B6 := (B5.kept hm6.1 nb5).cell
  have z6 := z5.trans (hm6.below H5)
  have al := (A5.kept hm6.1 n4).lt
  have bl := (B5.kept hm6.1 nb5).lt
  have a0 := A6 0
  have a1 := A6 1
  have a2 := A6 2
  have b0 := B6 0
  have b1 := B6 1
  have b2 := B6 2
  simp at a0 a1 a2 b0 b1 b2
  have H7 := H6.alloc (.cells #[.int .i64 2, .int .u64 5, .int .u64 1] 31)
  have HL := Lib.hid (len_any H7)
  have HZ := Lib.hid (z6.alloc (by have := z6.size; omega) (.cells #[.int .i64 2, .int .u64 5, .int .u64 1] 31))
  clear A2 A3 A4 A5 A6 B5 B6 H1 H2 H3 H4 H5 H6 H7 hm4 hm6 hb1 hb2 hb3 z2 z3 z4 z5 z6 n2 n4 nb5
  go_wp2_with (go_at_call 26; refine HL.out.mono ?_; rintro e w8 ⟨rfl, rfl⟩)
  go_ret
  exact ⟨rfl, HZ.out⟩
end Go.Proofs.Ytfflbbohgndjfaa
