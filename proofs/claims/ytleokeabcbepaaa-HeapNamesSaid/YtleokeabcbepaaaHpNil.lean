/-
  Calls on a heap that is none: nil, and the zero Heap.
-/
import Derived.Test.YtleokeabcbepaaaHpAll
namespace Go.Proofs.Ytleokeabcbepaaa
open Go.RowKit Go.Maps Go.ChangeMaps Go.Sort

theorem top_nil (w : World) : Calls Try.prog 24 #[.pointer none] w fun e w' =>
    e = .returned (.tuple #[.agg #[.int .i64 0, .int .u64 0, .int .u64 0], .bool false]) ∧ Below w.heap.size w w' := by
  go_enter Try.func24, Try.ntmps24
  go_wp2_with (go_at_call 26; refine (len_nil _).mono ?_; rintro e w' ⟨rfl, rfl⟩)
  exact bodyPost_ret (v := .tuple #[.agg #[.int .i64 0, .int .u64 0, .int .u64 0], .bool false]) (by simp [results, Try.results24, go_sem]) rfl ⟨rfl, (Below.refl _ _).alloc (Nat.le_refl _) _⟩
theorem top_zero (w : World) (h : Nat) (c0 : w.cell? ⟨h, 0, none⟩ = some (.pointer none)) (hh : h < w.heap.size) : Calls Try.prog 24 #[.pointer (some ⟨h, 0, none⟩)] w fun e w' =>
    e = .returned (.tuple #[.agg #[.int .i64 0, .int .u64 0, .int .u64 0], .bool false]) ∧ Below w.heap.size w w' := by
  have hL := Lib.hid (fun o => len_zero (w.alloc o) h ((((Below.refl _ w).alloc (Nat.le_refl _) o).cell (p := ⟨h, 0, none⟩) hh).trans c0))
  go_enter Try.func24, Try.ntmps24
  go_wp2_with (go_at_call 26; refine (hL.out _).mono ?_; rintro e w' ⟨rfl, rfl⟩)
  exact bodyPost_ret (v := .tuple #[.agg #[.int .i64 0, .int .u64 0, .int .u64 0], .bool false]) (by simp [results, Try.results24, go_sem]) rfl ⟨rfl, (Below.refl _ _).alloc (Nat.le_refl _) _⟩
theorem find_nil (w : World) (k : Int) : Calls Try.prog 19 #[.pointer none, .int .i64 k] w fun e w' =>
    e = .returned (.tuple #[.agg #[.int .i64 0, .int .u64 0, .int .u64 0], .bool false]) ∧ Below w.heap.size w w' := by
  go_enter Try.func19, Try.ntmps19
  go_wp2_with (go_at_call 30; refine (made_nil _).mono ?_; rintro e w' ⟨rfl, rfl⟩)
  exact bodyPost_ret (v := .tuple #[.agg #[.int .i64 0, .int .u64 0, .int .u64 0], .bool false]) (by simp [results, Try.results19, go_sem]) rfl ⟨rfl, (Below.refl _ _).alloc (Nat.le_refl _) _⟩
theorem push_nil (w : World) (a b c : Int) : Calls Try.prog 11 #[.pointer none, .agg #[.int .i64 a, .int .u64 b, .int .u64 c]] w fun e w' =>
    e = .returned (.int .i64 1) ∧ Below w.heap.size w w' := by
  go_enter Try.func11, Try.ntmps11
  go_wp2_with (go_at_call 30; refine (made_nil _).mono ?_; rintro e w' ⟨rfl, rfl⟩)
  go_ret
  exact ⟨rfl, (Below.refl _ _).alloc (Nat.le_refl _) _⟩
theorem move_zero (w : World) (h : Nat) (c0 : w.cell? ⟨h, 0, none⟩ = some (.pointer none)) (k d n : Int) : Calls Try.prog 17 #[.pointer (some ⟨h, 0, none⟩), .int .i64 k, .int .u64 d, .int .u64 n] w fun e w' =>
    e = .returned (.int .i64 1) ∧ w = w' := by
  have hM := Lib.hid (made_zero w h c0)
  go_enter Try.func17, Try.ntmps17
  go_wp2_with (go_at_call 30; refine hM.out.mono ?_; rintro e w' ⟨rfl, rfl⟩)
  go_ret
  exact ⟨rfl, rfl⟩

set_option maxHeartbeats 1000000 in
set_option maxRecDepth 100000 in
theorem pop_zero (w : World) (h : Nat) (c0 : w.cell? ⟨h, 0, none⟩ = some (.pointer none)) (hh : h < w.heap.size) : Calls Try.prog 13 #[.pointer (some ⟨h, 0, none⟩)] w fun e w' =>
    e = .returned (.tuple #[.agg #[.int .i64 0, .int .u64 0, .int .u64 0], .bool false]) ∧ Below w.heap.size w w' := by
  obtain ⟨R, hR⟩ : ∃ R, R = w.alloc (.cells #[.int .i64 0, .int .u64 0, .int .u64 0] 31) := ⟨_, rfl⟩
  have hkR : Below w.heap.size w R := by rw [hR]; exact (Below.refl _ w).alloc (Nat.le_refl _) _
  have hbR : Blk R w.heap.size 31 #[.int .i64 0, .int .u64 0, .int .u64 0] := by rw [hR]; exact Blk.new _ _ _
  have HT := Lib.hid (top_zero R h ((hkR.cell (p := ⟨h, 0, none⟩) hh).trans c0) (Nat.lt_of_lt_of_le hh hkR.size))
  have HF := Lib.hid (And.intro hkR hbR)
  have hR' := Lib.hid hR
  clear hR hkR hbR c0 hh
  go_enter Try.func13, Try.ntmps13
  go_wp2_with fail
  rw [← hR'.out]
  refine HT.out.mono ?_
  rintro e w2 ⟨rfl, hb2⟩
  obtain ⟨hkR, hbR⟩ := HF.out
  have hr2 : Blk w2 w.heap.size 31 #[.int .i64 0, .int .u64 0, .int .u64 0] := hbR.kept (Kept.of_below (F := fun _ => False) hb2) (fun e => e)
  have hz : w.heap.size < w2.heap.size := Nat.lt_of_lt_of_le hbR.lt hb2.size
  have hk2 := hkR.trans (hb2.mono hkR.size)
  have r0 := hr2.cell 0
  have r1 := hr2.cell 1
  have r2 := hr2.cell 2
  have rf := hr2.frozen
  simp at r0 r1 r2
  have hne1 : w.heap.size ≠ w2.heap.size := by omega
  have hne2 : w2.heap.size ≠ w.heap.size := by omega
  have HE := Lib.hid ((((hk2.setCell (p := ⟨w.heap.size, 0, none⟩) (Nat.le_refl _) (.int .i64 0)).setCell (p := ⟨w.heap.size, 1, none⟩) (Nat.le_refl _) (.int .u64 0)).setCell (p := ⟨w.heap.size, 2, none⟩) (Nat.le_refl _) (.int .u64 0)).alloc (by simp [World.setCell]; omega) (.cells #[.int .i64 0, .int .u64 0, .int .u64 0] 31))
  clear hr2 hk2 hb2 hbR hkR
  go_wp2_with fail
  refine bodyPost_ret (v := .tuple #[.agg #[.int .i64 0, .int .u64 0, .int .u64 0], .bool false]) ?_ rfl ⟨rfl, ?_⟩
  · simp [results, Try.results13, go_sem, hz, r0, r1, r2, hne1, hne2]
  · exact HE.out
set_option maxHeartbeats 1000000 in
set_option maxRecDepth 100000 in
theorem take_nil (w : World) (k : Int) : Calls Try.prog 16 #[.pointer none, .int .i64 k] w fun e w' =>
    e = .returned (.tuple #[.agg #[.int .i64 0, .int .u64 0, .int .u64 0], .bool false]) ∧ Below w.heap.size w w' := by
  obtain ⟨R, hR⟩ : ∃ R, R = w.alloc (.cells #[.int .i64 0, .int .u64 0, .int .u64 0] 31) := ⟨_, rfl⟩
  have hkR : Below w.heap.size w R := by rw [hR]; exact (Below.refl _ w).alloc (Nat.le_refl _) _
  have hbR : Blk R w.heap.size 31 #[.int .i64 0, .int .u64 0, .int .u64 0] := by rw [hR]; exact Blk.new _ _ _
  have HT := Lib.hid (find_nil R k)
  have HF := Lib.hid (And.intro hkR hbR)
  have hR' := Lib.hid hR
  clear hR hkR hbR
  go_enter Try.func16, Try.ntmps16
  go_wp2_with fail
  rw [← hR'.out]
  refine HT.out.mono ?_
  rintro e w2 ⟨rfl, hb2⟩
  obtain ⟨hkR, hbR⟩ := HF.out
  have hr2 : Blk w2 w.heap.size 31 #[.int .i64 0, .int .u64 0, .int .u64 0] := hbR.kept (Kept.of_below (F := fun _ => False) hb2) (fun e => e)
  have hz : w.heap.size < w2.heap.size := Nat.lt_of_lt_of_le hbR.lt hb2.size
  have hk2 := hkR.trans (hb2.mono hkR.size)
  have r0 := hr2.cell 0
  have r1 := hr2.cell 1
  have r2 := hr2.cell 2
  have rf := hr2.frozen
  simp at r0 r1 r2
  have hne1 : w.heap.size ≠ w2.heap.size := by omega
  have hne2 : w2.heap.size ≠ w.heap.size := by omega
  have HE := Lib.hid ((((hk2.setCell (p := ⟨w.heap.size, 0, none⟩) (Nat.le_refl _) (.int .i64 0)).setCell (p := ⟨w.heap.size, 1, none⟩) (Nat.le_refl _) (.int .u64 0)).setCell (p := ⟨w.heap.size, 2, none⟩) (Nat.le_refl _) (.int .u64 0)).alloc (by simp [World.setCell]; omega) (.cells #[.int .i64 0, .int .u64 0, .int .u64 0] 31))
  clear hr2 hk2 hb2 hbR hkR
  go_wp2_with fail
  refine bodyPost_ret (v := .tuple #[.agg #[.int .i64 0, .int .u64 0, .int .u64 0], .bool false]) ?_ rfl ⟨rfl, ?_⟩
  · simp [results, Try.results16, go_sem, hz, r0, r1, r2, hne1, hne2]
  · exact HE.out
end Go.Proofs.Ytleokeabcbepaaa
