/-
  Calls that name a descriptor which is not open; Shut, Wire; what Accept refuses.
-/
import Derived.Test.YtbbgnpnopodppaaDoorKwConn
namespace Go.Proofs.YtbbgnpnopodppaaDoor
open Go.RowKit Go.Shelf Go.Maps Go.ChangeMaps

section
variable {w w' : World} {B : Nat} {L : Lay} {S : Ws}
theorem wClose_no (h : Wd w B L S) {n : Int} (hf : S.fd n = none) : Calls Tryd.prog 5 #[.pointer (some ⟨L.p, 0, none⟩), .int .i64 n] w fun e w' => e = .returned (.int .i64 110) ∧ w = w' := by
  have HF := Lib.hid (find_no h hf)
  clear h hf
  go_enter Tryd.func5, Tryd.ntmps5
  go_wp2_with fail
  refine HF.out.mono ?_
  rintro e w1 ⟨rfl, rfl⟩
  go_wp2_with fail
  go_ret
  exact ⟨rfl, rfl⟩
set_option maxRecDepth 100000 in
theorem wReady_no (h : Wd w B L S) {n : Int} (hf : S.fd n = none) : Calls Tryd.prog 19 #[.pointer (some ⟨L.p, 0, none⟩), .int .i64 n] w fun e w' => e = .returned (rdyV ⟨false, false, false, false, false, 0, 0⟩) ∧ Kept (fun _ => False) w w' := by
  have K0 := (Kept.refl (fun _ => False) w).alloc (.cells #[.bool false, .bool false, .bool false, .bool false, .bool false, .int .u64 0, .int .u64 0] 62)
  have hb := Blk.new w 62 #[.bool false, .bool false, .bool false, .bool false, .bool false, .int .u64 0, .int .u64 0]
  obtain ⟨W, hW⟩ : ∃ W, W = w.alloc (.cells #[.bool false, .bool false, .bool false, .bool false, .bool false, .int .u64 0, .int .u64 0] 62) := ⟨_, rfl⟩
  rw [← hW] at K0 hb
  have h1 : Wd W B L S := h.keeps K0 (fun _ _ e => e)
  have HF := Lib.hid (find_no h1 hf)
  have HB := Lib.hid (And.intro hb K0)
  obtain ⟨g, hg⟩ : ∃ g, g = w.heap.size := ⟨_, rfl⟩
  rw [← hg] at HB
  have HG := Lib.hid hg
  have lg := hb.lt
  have fg := fun j => hb.frozen j
  have p0 := hb.cell 0
  have p1 := hb.cell 1
  have p2 := hb.cell 2
  have p3 := hb.cell 3
  have p4 := hb.cell 4
  have p5 := hb.cell 5
  have p6 := hb.cell 6
  simp at p0 p1 p2 p3 p4 p5 p6
  rw [← hg] at lg fg p0 p1 p2 p3 p4 p5 p6
  clear h h1 K0 hb hf
  go_enter Tryd.func19, Tryd.ntmps19
  go_wp2_with fail
  rw [← hW, ← hg]
  clear hW hg
  go_wp2_with fail
  refine HF.out.mono ?_
  rintro e w1 ⟨rfl, rfl⟩
  go_wp2_with fail
  have hq := (((((((show Blk W g 62 #[.bool false, .bool false, .bool false, .bool false, .bool false, .int .u64 0, .int .u64 0] from HB.out.1).set_ 0 (.bool false)).set_ 1 (.bool false)).set_ 2 (.bool false)).set_ 3 (.bool false)).set_ 4 (.bool false)).set_ 5 (.int .u64 0)).set_ 6 (.int .u64 0)
  refine bodyPost_ret (results_cell_row rfl _ _ g _ #[.bool false, .bool false, .bool false, .bool false, .bool false, .int .u64 0, .int .u64 0] _ _ rfl hq rfl rfl rfl) rfl ?_
  refine ⟨rfl, ?_⟩
  have hle : w.heap.size ≤ g := Nat.le_of_eq HG.out.symm
  exact (((((((HB.out.2.setCell_new (p := ⟨g, 0, none⟩) hle _).setCell_new (p := ⟨g, 1, none⟩) hle _).setCell_new (p := ⟨g, 2, none⟩) hle _).setCell_new (p := ⟨g, 3, none⟩) hle _).setCell_new (p := ⟨g, 4, none⟩) hle _).setCell_new (p := ⟨g, 5, none⟩) hle _).setCell_new (p := ⟨g, 6, none⟩) hle _)
/-- What Shut answers, and leaves. -/
def Wi.shutR (x : Wi) (k : Bool) : Int × Wi := if (x.e k).can = true ∧ (x.e (!k)).can = true then (0, x.stop k) else (111, x)
end
section
variable {w w' : World} {B : Nat} {L : Lay} {S : Ws}
end
end Go.Proofs.YtbbgnpnopodppaaDoor
