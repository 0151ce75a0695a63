/-
  What the chapter's examples call: a wrong text, a bad move, no script, no world, the order of a script.
-/
import Derived.Test.YtlephnfepofbbaaGreatDoorMsAlive
import Derived.Test.YtlephnfepofbbaaGreatDoorMvParse
namespace Go.Proofs.YtlephnfepofbbaaGreatDoor
open Go.RowKit Go.Shelf Go.Maps Go.ChangeMaps

set_option maxRecDepth 100000 in
theorem wrong_any (s : ByteArray) (hs : s.size ≤ 1000) (k : Nat) (h : parseS s.data.toList = .error k) (w : World) (hE : Env w.heap.size w) : Calls Tryz.prog 6 #[.string s, .int .i64 (k : Int)] w fun e w' => e = .returned (.bool true) ∧ Below w.heap.size w w' := by
  have hp := parse_any s (by omega) w hE
  rw [h] at hp
  have HP := Lib.hid hp
  clear hp h hE hs
  go_enter Tryz.func6, Tryz.ntmps6
  go_wp2_with (go_at_call 10; refine HP.out.mono ?_; rintro e w1 ⟨hb, rfl⟩; have HB := Lib.hid hb; clear hb)
  go_ret
  exact ⟨rfl, HB.out⟩
set_option maxRecDepth 100000 in
theorem make_bad {D : Nat → Prop} (m : Mo) (dv : Value) (p : Addr) (w : World) (hT : TabF w) (hb : SrcB D w dv m.b) (hm : mvOk m = false) : Calls Tryz.prog 8 #[.pointer (some p), .agg #[.int .i64 m.op, .int .i64 m.wire, .int .i64 m.n, dv]] w fun e w' => e = .returned (.tuple #[.int .i64 0, .int .i64 120]) ∧ Below w.heap.size w w' := by
  have hal : Below w.heap.size w (w.alloc (.cells #[.int .i64 m.op, .int .i64 m.wire, .int .i64 m.n, dv] 25)) := (Below.refl _ _).alloc (Nat.le_refl _) _
  have hv := valid_any (D := fun g => D g ∧ g < w.heap.size) m dv (w.alloc (.cells #[.int .i64 m.op, .int .i64 m.wire, .int .i64 m.n, dv] 25)) (hT.below hal) ((hb.weak (fun g h1 h2 => ⟨h2, h1⟩)).same (fun g hg _ => hal.block g hg.2) hal.size)
  rw [hm] at hv
  obtain ⟨A, c, rfl, _, _, _⟩ := hb.form
  have HV := Lib.hid hv
  have HAL := Lib.hid hal
  clear hv hb hT hal hm
  go_enter Tryz.func8, Tryz.ntmps8
  go_wp2_with (go_at_call 25; refine HV.out.mono ?_; rintro e w1 ⟨rfl, hb⟩; have HB := Lib.hid (HAL.out.trans (hb.mono HAL.out.size)); clear hb)
  go_ret2
  exact ⟨rfl, HB.out⟩
set_option maxRecDepth 100000 in
theorem make_none (m : Mo) (A : Option Addr) (n c : Nat) (w : World) : Calls Tryz.prog 8 #[.pointer none, .agg #[.int .i64 m.op, .int .i64 m.wire, .int .i64 m.n, .slice A n c]] w fun e w' => e = .returned (.tuple #[.int .i64 0, .int .i64 1]) ∧ Below w.heap.size w w' := by
  go_enter Tryz.func8, Tryz.ntmps8
  go_wp2_with fail
  go_ret2
  exact ⟨rfl, (Below.refl _ _).alloc (Nat.le_refl _) _⟩
set_option maxRecDepth 100000 in
theorem new_bad (l : List St) (v : Value) (w : World) (hT : TabF w) (hx : SrcS (Lt w.heap.size) w v l) (hok : allOk l = false) : Calls Tryz.prog 11 #[v] w fun e w' => e = .returned (.tuple #[.pointer none, .int .i64 120]) ∧ Below w.heap.size w w' := by
  have hC := checkAll_any l v w hT hx
  have e0 : allE l = 120 := by unfold allE; rw [if_neg (by rw [hok]; simp)]
  rw [e0] at hC
  have HC := Lib.hid hC
  clear hC e0 hok hx hT
  go_enter Tryz.func11, Tryz.ntmps11
  go_wp2_with (go_at_call 36; refine HC.out.mono ?_; rintro e w1 ⟨rfl, hb1⟩; have HB1 := Lib.hid hb1; clear hb1)
  go_ret2
  exact ⟨rfl, HB1.out⟩
set_option maxRecDepth 100000 in
theorem smade_none (w : World) : Calls Tryz.prog 38 #[.pointer none] w fun e w' => e = .returned (.bool false) ∧ w = w' := by
  go_enter Tryz.func38, Tryz.ntmps38
  go_wp2_with fail
  go_ret
  exact ⟨rfl, rfl⟩
set_option maxRecDepth 100000 in
theorem left_none (w : World) : Calls Tryz.prog 18 #[.pointer none] w fun e w' => e = .returned (.slice none 0 0) ∧ w = w' := by
  have HM := Lib.hid (smade_none w)
  go_enter Tryz.func18, Tryz.ntmps18
  go_wp2_with (go_at_call 38; refine HM.out.mono ?_; rintro e w1 ⟨rfl, rfl⟩)
  go_ret
  exact ⟨rfl, rfl⟩
set_option maxRecDepth 100000 in
theorem order_none (w : World) : Calls Tryz.prog 17 #[.pointer none] w fun e w' => e = .returned (.slice none 0 0) ∧ w = w' := by
  have HM := Lib.hid (smade_none w)
  go_enter Tryz.func17, Tryz.ntmps17
  go_wp2_with (go_at_call 38; refine HM.out.mono ?_; rintro e w1 ⟨rfl, rfl⟩)
  go_ret
  exact ⟨rfl, rfl⟩
set_option maxRecDepth 100000 in
theorem sleep_none (q : Option Addr) (n : Int) (w : World) : Calls Tryz.prog 12 #[.pointer none, .pointer q, .int .u64 n, .bool false, .nilFunc] w fun e w' => e = .returned (.int .i64 4) ∧ Below w.heap.size w w' := by
  have HM := Lib.hid (smade_none (w.alloc (.cells #[.nilFunc] 44)))
  go_enter Tryz.func12, Tryz.ntmps12
  go_wp2_with (go_at_call 38; refine HM.out.mono ?_; rintro e w1 ⟨rfl, rfl⟩)
  go_ret
  exact ⟨rfl, (Below.refl _ _).alloc (Nat.le_refl _) _⟩
set_option maxRecDepth 100000 in
theorem sorder_any {sb kb : Nat} {D : Nat → Prop} {w : World} {l : List St} {o : List Int} (h : Blk w sb 88 #[.pointer (some ⟨kb, 0, none⟩)]) (hs : Sk D kb w l o) (ho : o.length ≤ 90000000) : Calls Tryz.prog 17 #[.pointer (some ⟨sb, 0, none⟩)] w (ClR RIn o w) := by
  have c0 : w.cell? ⟨sb, 0, none⟩ = some (.pointer (some ⟨kb, 0, none⟩)) := h.cell 0
  obtain ⟨lv, ov, ps, hb, _, _, _, hr, _⟩ := hs
  have c1 : w.cell? ⟨kb, 1, none⟩ = some ov := hb.cell 1
  have HM := Lib.hid (smade_any h)
  obtain ⟨A, c, rfl, hsh, hA, _⟩ := RowK.own_shows hr
  have HCL := Lib.hid (clone_ints o A o.length c rfl ho hA w hsh)
  clear h hb hr hsh hA ho
  go_enter Tryz.func17, Tryz.ntmps17
  go_wp2_with (first
    | (go_at_call 38; refine HM.out.mono ?_; rintro e w1 ⟨rfl, rfl⟩)
    | (go_at_call 45; refine HCL.out.mono ?_; rintro e w2 ⟨cv, rfl, hp, hb2⟩; obtain ⟨A0, n0, c0, rfl⟩ := RowK.own_slice hp; have HP := Lib.hid (And.intro hp hb2); clear hp hb2))
  go_ret
  exact ⟨_, rfl, HP.out.1, HP.out.2⟩
end Go.Proofs.YtlephnfepofbbaaGreatDoor
