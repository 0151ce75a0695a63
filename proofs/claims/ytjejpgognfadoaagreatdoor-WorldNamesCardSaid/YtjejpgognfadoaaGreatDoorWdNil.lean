/-
  The calls of a world that New did not make.
-/
import Derived.Test.YtjejpgognfadoaaGreatDoorWdListen
namespace Go.Proofs.YtjejpgognfadoaaGreatDoor
open Go.RowKit Go.Shelf Go.Maps Go.ChangeMaps

attribute [local go_sem] Oper.semAt_some

/-- A world that New did not make. -/
def Un (v : Value) (w : World) : Prop := Calls Tryz.prog 53 #[v] w fun e w' => e = .returned (.bool false) ∧ w = w'
theorem un_nil (w : World) : Un (.pointer none) w := wmade_nil w
theorem un_zero {w : World} {p : Nat} (h : Blk w p 48 #[.pointer none]) : Un (.pointer (some ⟨p, 0, none⟩)) w := wmade_zero h
section
variable {v : Value} {w : World}
theorem un_made (h : Un v w) : Calls Tryz.prog 53 #[v] w fun e w' => e = .returned (.bool false) ∧ w = w' := h
set_option maxRecDepth 100000 in
theorem un_room (h : Un v w) (a : Int) (b : Int) (c : Int) : Calls Tryz.prog 30 #[v, .int .i64 a, .int .i64 b, .int .i64 c] w fun e w' => e = .returned (.tuple #[.slice none 0 0, .int .i64 1]) ∧ w = w' := by
  have HC := Lib.hid (un_made h )
  clear h
  go_enter Tryz.func30, Tryz.ntmps30
  go_wp2_with fail
  refine HC.out.mono ?_
  rintro e w1 ⟨rfl, rfl⟩
  go_wp2_with fail
  go_ret2
  exact ⟨rfl, rfl⟩
set_option maxRecDepth 100000 in
theorem un_both (h : Un v w) (a : Int) (b : Int) : Calls Tryz.prog 52 #[v, .int .i64 a, .int .i64 b] w fun e w' => e = .returned (.tuple #[.int .i64 0, .int .i64 0, .int .i64 1]) ∧ w = w' := by
  have HC := Lib.hid (un_room h a 65536 2)
  clear h
  go_enter Tryz.func52, Tryz.ntmps52
  go_wp2_with fail
  refine HC.out.mono ?_
  rintro e w1 ⟨rfl, rfl⟩
  go_wp2_with fail
  go_ret3
  exact ⟨rfl, rfl⟩
set_option maxRecDepth 100000 in
theorem un_pipe (h : Un v w) (a : Int) : Calls Tryz.prog 21 #[v, .int .i64 a] w fun e w' => e = .returned (.tuple #[.int .i64 0, .int .i64 0, .int .i64 1]) ∧ w = w' := by
  have HC := Lib.hid (un_both h a 1)
  clear h
  go_enter Tryz.func21, Tryz.ntmps21
  go_wp2_with fail
  refine HC.out.mono ?_
  rintro e w1 ⟨rfl, rfl⟩
  go_wp2_with fail
  go_ret3
  exact ⟨rfl, rfl⟩
set_option maxRecDepth 100000 in
theorem un_listen (h : Un v w) (a : Int) : Calls Tryz.prog 13 #[v, .int .i64 a] w fun e w' => e = .returned (.tuple #[.int .i64 0, .int .i64 0, .int .i64 1]) ∧ w = w' := by
  have HC := Lib.hid (un_room h a 64 1)
  clear h
  go_enter Tryz.func13, Tryz.ntmps13
  go_wp2_with fail
  refine HC.out.mono ?_
  rintro e w1 ⟨rfl, rfl⟩
  go_wp2_with fail
  go_ret3
  exact ⟨rfl, rfl⟩
set_option maxRecDepth 100000 in
theorem un_find (h : Un v w) (a : Int) : Calls Tryz.prog 37 #[v, .int .i64 a] w fun e w' => e = .returned (.tuple #[.pointer none, .int .i64 1]) ∧ w = w' := by
  have HC := Lib.hid (un_made h )
  clear h
  go_enter Tryz.func37, Tryz.ntmps37
  go_wp2_with fail
  refine HC.out.mono ?_
  rintro e w1 ⟨rfl, rfl⟩
  go_wp2_with fail
  go_ret2
  exact ⟨rfl, rfl⟩
set_option maxRecDepth 100000 in
theorem un_wire (h : Un v w) (a : Int) : Calls Tryz.prog 48 #[v, .int .i64 a] w fun e w' => e = .returned (.tuple #[.pointer none, .int .i64 1]) ∧ w = w' := by
  have HC := Lib.hid (un_made h )
  clear h
  go_enter Tryz.func48, Tryz.ntmps48
  go_wp2_with fail
  refine HC.out.mono ?_
  rintro e w1 ⟨rfl, rfl⟩
  go_wp2_with fail
  go_ret2
  exact ⟨rfl, rfl⟩
set_option maxRecDepth 100000 in
theorem un_outer (h : Un v w) (a : Int) : Calls Tryz.prog 33 #[v, .int .i64 a] w fun e w' => e = .returned (.tuple #[.pointer none, .int .i64 1]) ∧ w = w' := by
  have HC := Lib.hid (un_wire h a)
  clear h
  go_enter Tryz.func33, Tryz.ntmps33
  go_wp2_with fail
  refine HC.out.mono ?_
  rintro e w1 ⟨rfl, rfl⟩
  go_wp2_with fail
  go_ret2
  exact ⟨rfl, rfl⟩
set_option maxRecDepth 100000 in
theorem un_put (h : Un v w) (a : Int) (D : Value) : Calls Tryz.prog 6 #[v, .int .i64 a, D] w fun e w' => e = .returned (.tuple #[.int .i64 0, .int .i64 1]) ∧ w = w' := by
  have HC := Lib.hid (un_outer h a)
  clear h
  go_enter Tryz.func6, Tryz.ntmps6
  go_wp2_with fail
  refine HC.out.mono ?_
  rintro e w1 ⟨rfl, rfl⟩
  go_wp2_with fail
  go_ret2
  exact ⟨rfl, rfl⟩
set_option maxRecDepth 100000 in
theorem un_connect (h : Un v w) (a : Int) (b : Int) : Calls Tryz.prog 14 #[v, .int .i64 a, .int .i64 b] w fun e w' => e = .returned (.tuple #[.int .i64 0, .int .i64 1]) ∧ w = w' := by
  have HC := Lib.hid (un_wire h a)
  clear h
  go_enter Tryz.func14, Tryz.ntmps14
  go_wp2_with fail
  refine HC.out.mono ?_
  rintro e w1 ⟨rfl, rfl⟩
  go_wp2_with fail
  go_ret2
  exact ⟨rfl, rfl⟩
set_option maxRecDepth 100000 in
theorem un_close (h : Un v w) (a : Int) : Calls Tryz.prog 23 #[v, .int .i64 a] w fun e w' => e = .returned (.int .i64 1) ∧ w = w' := by
  have HC := Lib.hid (un_find h a)
  clear h
  go_enter Tryz.func23, Tryz.ntmps23
  go_wp2_with fail
  refine HC.out.mono ?_
  rintro e w1 ⟨rfl, rfl⟩
  go_wp2_with fail
  go_ret
  exact ⟨rfl, rfl⟩
set_option maxRecDepth 100000 in
theorem un_reset (h : Un v w) (a : Int) : Calls Tryz.prog 24 #[v, .int .i64 a] w fun e w' => e = .returned (.int .i64 1) ∧ w = w' := by
  have HC := Lib.hid (un_outer h a)
  clear h
  go_enter Tryz.func24, Tryz.ntmps24
  go_wp2_with fail
  refine HC.out.mono ?_
  rintro e w1 ⟨rfl, rfl⟩
  go_wp2_with fail
  go_ret
  exact ⟨rfl, rfl⟩
set_option maxRecDepth 100000 in
theorem un_now (h : Un v w) : Calls Tryz.prog 25 #[v] w fun e w' => e = .returned (.int .u64 0) ∧ w = w' := by
  have HC := Lib.hid (un_made h )
  clear h
  go_enter Tryz.func25, Tryz.ntmps25
  go_wp2_with fail
  refine HC.out.mono ?_
  rintro e w1 ⟨rfl, rfl⟩
  go_wp2_with fail
  go_ret
  exact ⟨rfl, rfl⟩
set_option maxRecDepth 100000 in
theorem un_fds (h : Un v w) : Calls Tryz.prog 26 #[v] w fun e w' => e = .returned (.slice none 0 0) ∧ w = w' := by
  have HC := Lib.hid (un_made h )
  clear h
  go_enter Tryz.func26, Tryz.ntmps26
  go_wp2_with fail
  refine HC.out.mono ?_
  rintro e w1 ⟨rfl, rfl⟩
  go_wp2_with fail
  go_ret
  exact ⟨rfl, rfl⟩
set_option maxRecDepth 100000 in
theorem un_image (h : Un v w) : Calls Tryz.prog 27 #[v] w fun e w' => e = .returned (.slice none 0 0) ∧ w = w' := by
  have HC := Lib.hid (un_made h )
  clear h
  go_enter Tryz.func27, Tryz.ntmps27
  go_wp2_with fail
  refine HC.out.mono ?_
  rintro e w1 ⟨rfl, rfl⟩
  go_wp2_with fail
  go_ret
  exact ⟨rfl, rfl⟩
set_option maxRecDepth 100000 in
theorem un_pass (h : Un v w) (U : Int) : Calls Tryz.prog 22 #[v, .int .u64 U] w fun e w' => e = .returned (.tuple #[]) ∧ w = w' := by
  have HC := Lib.hid (un_made h )
  clear h
  go_enter Tryz.func22, Tryz.ntmps22
  go_wp2_with fail
  refine HC.out.mono ?_
  rintro e w1 ⟨rfl, rfl⟩
  go_wp2_with fail
  go_end0
  exact ⟨rfl, rfl⟩
set_option maxRecDepth 100000 in
theorem un_raise (h : Un v w) (a : Int) : Calls Tryz.prog 19 #[v, .int .i64 a] w fun e w' => e = .returned (.int .i64 1) ∧ w = w' := by
  have HC := Lib.hid (un_made h )
  clear h
  go_enter Tryz.func19, Tryz.ntmps19
  go_wp2_with fail
  refine HC.out.mono ?_
  rintro e w1 ⟨rfl, rfl⟩
  go_wp2_with fail
  go_ret
  exact ⟨rfl, rfl⟩
set_option maxRecDepth 100000 in
theorem un_notice (h : Un v w) (a : Int) (b : Int) : Calls Tryz.prog 17 #[v, .int .i64 a, .int .i64 b] w fun e w' => e = .returned (.int .i64 1) ∧ w = w' := by
  have HC := Lib.hid (un_made h )
  clear h
  go_enter Tryz.func17, Tryz.ntmps17
  go_wp2_with fail
  refine HC.out.mono ?_
  rintro e w1 ⟨rfl, rfl⟩
  go_wp2_with fail
  go_ret
  exact ⟨rfl, rfl⟩
set_option maxRecDepth 100000 in
theorem un_signals (h : Un v w) : Calls Tryz.prog 20 #[v] w fun e w' => e = .returned (.slice none 0 0) ∧ w = w' := by
  have HC := Lib.hid (un_made h )
  clear h
  go_enter Tryz.func20, Tryz.ntmps20
  go_wp2_with fail
  refine HC.out.mono ?_
  rintro e w1 ⟨rfl, rfl⟩
  go_wp2_with fail
  go_ret
  exact ⟨rfl, rfl⟩
end
def rdy0 : Array Value := #[.bool false, .bool false, .bool false, .bool false, .bool false, .int .u64 0, .int .u64 0]
set_option maxRecDepth 100000 in
theorem nil_ready (w : World) (a : Int) : Calls Tryz.prog 11 #[.pointer none, .int .i64 a] w fun e w' => e = .returned (.agg rdy0) ∧ Kept (fun _ => False) w w' := by
  have HC := Lib.hid (un_find (un_nil (w.alloc (.cells #[.bool false, .bool false, .bool false, .bool false, .bool false, .int .u64 0, .int .u64 0] 37))) a)
  have HK := Lib.hid ((Kept.refl (fun _ => False) w).alloc (.cells #[.bool false, .bool false, .bool false, .bool false, .bool false, .int .u64 0, .int .u64 0] 37))
  have b0 := Blk.new w 37 #[.bool false, .bool false, .bool false, .bool false, .bool false, .int .u64 0, .int .u64 0]
  have HB := Lib.hid b0
  clear b0
  go_enter Tryz.func11, Tryz.ntmps11
  go_wp2_with fail
  refine HC.out.mono ?_
  rintro e w1 ⟨rfl, rfl⟩
  go_wp2_with fail
  refine bodyPost_ret (results_cell_row rfl _ _ w.heap.size _ #[.bool false, .bool false, .bool false, .bool false, .bool false, .int .u64 0, .int .u64 0] _ _ rfl HB.out rfl rfl rfl) rfl ?_
  exact ⟨rfl, HK.out⟩
end Go.Proofs.YtjejpgognfadoaaGreatDoor
