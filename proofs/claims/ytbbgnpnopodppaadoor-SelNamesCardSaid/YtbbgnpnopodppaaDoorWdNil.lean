/-
  The calls of a world that New did not make.
-/
import Derived.Test.YtbbgnpnopodppaaDoorWdListen
namespace Go.Proofs.YtbbgnpnopodppaaDoor
open Go.RowKit Go.Shelf Go.Maps Go.ChangeMaps

attribute [local go_sem] Oper.semAt_some

/-- A world that New did not make. -/
def Un (v : Value) (w : World) : Prop := Calls Tryd.prog 33 #[v] w fun e w' => e = .returned (.bool false) ∧ w = w'
theorem un_nil (w : World) : Un (.pointer none) w := wmade_nil w
theorem un_zero {w : World} {p : Nat} (h : Blk w p 50 #[.pointer none]) : Un (.pointer (some ⟨p, 0, none⟩)) w := wmade_zero h
section
variable {v : Value} {w : World}
theorem un_made (h : Un v w) : Calls Tryd.prog 33 #[v] w fun e w' => e = .returned (.bool false) ∧ w = w' := h
set_option maxRecDepth 100000 in
theorem un_room (h : Un v w) (a : Int) (b : Int) (c : Int) : Calls Tryd.prog 30 #[v, .int .i64 a, .int .i64 b, .int .i64 c] w fun e w' => e = .returned (.tuple #[.slice none 0 0, .int .i64 1]) ∧ w = w' := by
  have HC := Lib.hid (un_made h )
  clear h
  go_enter Tryd.func30, Tryd.ntmps30
  go_wp2_with fail
  refine HC.out.mono ?_
  rintro e w1 ⟨rfl, rfl⟩
  go_wp2_with fail
  go_ret2
  exact ⟨rfl, rfl⟩
set_option maxRecDepth 100000 in
theorem un_both (h : Un v w) (a : Int) (b : Int) : Calls Tryd.prog 29 #[v, .int .i64 a, .int .i64 b] w fun e w' => e = .returned (.tuple #[.int .i64 0, .int .i64 0, .int .i64 1]) ∧ w = w' := by
  have HC := Lib.hid (un_room h a 65536 2)
  clear h
  go_enter Tryd.func29, Tryd.ntmps29
  go_wp2_with fail
  refine HC.out.mono ?_
  rintro e w1 ⟨rfl, rfl⟩
  go_wp2_with fail
  go_ret3
  exact ⟨rfl, rfl⟩
set_option maxRecDepth 100000 in
theorem un_pipe (h : Un v w) (a : Int) : Calls Tryd.prog 14 #[v, .int .i64 a] w fun e w' => e = .returned (.tuple #[.int .i64 0, .int .i64 0, .int .i64 1]) ∧ w = w' := by
  have HC := Lib.hid (un_both h a 1)
  clear h
  go_enter Tryd.func14, Tryd.ntmps14
  go_wp2_with fail
  refine HC.out.mono ?_
  rintro e w1 ⟨rfl, rfl⟩
  go_wp2_with fail
  go_ret3
  exact ⟨rfl, rfl⟩
set_option maxRecDepth 100000 in
theorem un_find (h : Un v w) (a : Int) : Calls Tryd.prog 16 #[v, .int .i64 a] w fun e w' => e = .returned (.tuple #[.pointer none, .int .i64 1]) ∧ w = w' := by
  have HC := Lib.hid (un_made h )
  clear h
  go_enter Tryd.func16, Tryd.ntmps16
  go_wp2_with fail
  refine HC.out.mono ?_
  rintro e w1 ⟨rfl, rfl⟩
  go_wp2_with fail
  go_ret2
  exact ⟨rfl, rfl⟩
set_option maxRecDepth 100000 in
theorem un_close (h : Un v w) (a : Int) : Calls Tryd.prog 5 #[v, .int .i64 a] w fun e w' => e = .returned (.int .i64 1) ∧ w = w' := by
  have HC := Lib.hid (un_find h a)
  clear h
  go_enter Tryd.func5, Tryd.ntmps5
  go_wp2_with fail
  refine HC.out.mono ?_
  rintro e w1 ⟨rfl, rfl⟩
  go_wp2_with fail
  go_ret
  exact ⟨rfl, rfl⟩
end
def rdy0 : Array Value := #[.bool false, .bool false, .bool false, .bool false, .bool false, .int .u64 0, .int .u64 0]
set_option maxRecDepth 100000 in
theorem nil_ready (w : World) (a : Int) : Calls Tryd.prog 19 #[.pointer none, .int .i64 a] w fun e w' => e = .returned (.agg rdy0) ∧ Kept (fun _ => False) w w' := by
  have HC := Lib.hid (un_find (un_nil (w.alloc (.cells #[.bool false, .bool false, .bool false, .bool false, .bool false, .int .u64 0, .int .u64 0] 62))) a)
  have HK := Lib.hid ((Kept.refl (fun _ => False) w).alloc (.cells #[.bool false, .bool false, .bool false, .bool false, .bool false, .int .u64 0, .int .u64 0] 62))
  have b0 := Blk.new w 62 #[.bool false, .bool false, .bool false, .bool false, .bool false, .int .u64 0, .int .u64 0]
  have HB := Lib.hid b0
  clear b0
  go_enter Tryd.func19, Tryd.ntmps19
  go_wp2_with fail
  refine HC.out.mono ?_
  rintro e w1 ⟨rfl, rfl⟩
  go_wp2_with fail
  refine bodyPost_ret (results_cell_row rfl _ _ w.heap.size _ #[.bool false, .bool false, .bool false, .bool false, .bool false, .int .u64 0, .int .u64 0] _ _ rfl HB.out rfl rfl rfl) rfl ?_
  exact ⟨rfl, HK.out⟩
end Go.Proofs.YtbbgnpnopodppaaDoor
