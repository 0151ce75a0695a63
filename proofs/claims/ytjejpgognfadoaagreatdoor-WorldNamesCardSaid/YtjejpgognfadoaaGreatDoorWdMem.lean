/-
  A world in memory: the blocks of its wires, with their ends; the ends' calls that only look.
-/
import Derived.Test.YtjejpgognfadoaaGreatDoorRgLaw
import Derived.Test.YtjejpgognfadoaaGreatDoorSgMem
import Derived.Test.YtjejpgognfadoaaGreatDoorCmRowN
import Derived.Test.YtjejpgognfadoaaGreatDoorWdPure
namespace Go.Proofs.YtjejpgognfadoaaGreatDoor
open Go.RowKit Go.Maps Go.ChangeMaps

/-- The pointer to a ring, if there is one. -/
def rp (c : Bool) (r : Nat) : Value := if c then .pointer (some ⟨r, 0, none⟩) else .pointer none
theorem rp_yes (r : Nat) : rp true r = .pointer (some ⟨r, 0, none⟩) := rfl
theorem rp_no (r : Nat) : rp false r = .pointer none := rfl
theorem rp_one (c : Bool) (r : Nat) : (rp c r).oneCell' = true := by cases c <;> rfl
/-- Where an end begins. -/
def off (k : Bool) : Nat := if k then 8 else 1
theorem off_f : off false = 1 := rfl
theorem off_t : off true = 8 := rfl
def num (k : Bool) : Int := if k then 1 else 0
/-- The cells of a wire that is numbered n: its block is g, its rings are r's, v names what waits. -/
def cellsW (g n : Nat) (r : Bool → Nat) (v : Value) (x : Wi) : Array Value := #[.int .i64 (n : Int),
  .pointer (some ⟨g, 0, none⟩), .int .i64 0, .int .i64 ((x.e false).is : Int), .bool (x.e false).shut, rp (x.e false).can (r false), .int .u64 ((x.e false).rd : Int), .int .u64 ((x.e false).wr : Int),
  .pointer (some ⟨g, 0, none⟩), .int .i64 1, .int .i64 ((x.e true).is : Int), .bool (x.e true).shut, rp (x.e true).can (r true), .int .u64 ((x.e true).rd : Int), .int .u64 ((x.e true).wr : Int),
  .bool x.reset, .int .i64 (x.back : Int), v]
def Wb (W : World) (g n : Nat) (r : Bool → Nat) (v : Value) (x : Wi) : Prop := Blk W g 73 (cellsW g n r v x)
section
variable {w w' : World} {g n : Nat} {r : Bool → Nat} {v : Value} {x : Wi}
theorem Wb.lt (h : Wb w g n r v x) : g < w.heap.size := Blk.lt h
theorem Wb.same (h : Wb w g n r v x) (e : w'.heap[g]? = w.heap[g]?) : Wb w' g n r v x := Blk.same h e
theorem Wb.kept {F : Nat → Prop} (h : Wb w g n r v x) (q : Kept F w w') (hf : ¬ F g) : Wb w' g n r v x := Blk.kept h q hf
theorem Wb.drewN (h : Wb w g n r v x) (q : Nat) : Wb (w.drewN q) g n r v x := h
theorem Wb.frozen (h : Wb w g n r v x) (i : Nat) : w.frozen? ⟨g, i, none⟩ = false := Blk.frozen h i
theorem Wb.c0 (h : Wb w g n r v x) (k : Bool) : w.cell? ⟨g, off k, none⟩ = some (.pointer (some ⟨g, 0, none⟩)) := by rw [Blk.cell h]; cases k <;> rfl
theorem Wb.c1 (h : Wb w g n r v x) (k : Bool) : w.cell? ⟨g, off k + 1, none⟩ = some (.int .i64 (num k)) := by rw [Blk.cell h]; cases k <;> rfl
theorem Wb.c2 (h : Wb w g n r v x) (k : Bool) : w.cell? ⟨g, off k + 2, none⟩ = some (.int .i64 ((x.e k).is : Int)) := by rw [Blk.cell h]; cases k <;> rfl
theorem Wb.c3 (h : Wb w g n r v x) (k : Bool) : w.cell? ⟨g, off k + 3, none⟩ = some (.bool (x.e k).shut) := by rw [Blk.cell h]; cases k <;> rfl
theorem Wb.c4 (h : Wb w g n r v x) (k : Bool) : w.cell? ⟨g, off k + 4, none⟩ = some (rp (x.e k).can (r k)) := by rw [Blk.cell h]; cases k <;> rfl
theorem Wb.c5 (h : Wb w g n r v x) (k : Bool) : w.cell? ⟨g, off k + 5, none⟩ = some (.int .u64 ((x.e k).rd : Int)) := by rw [Blk.cell h]; cases k <;> rfl
theorem Wb.c6 (h : Wb w g n r v x) (k : Bool) : w.cell? ⟨g, off k + 6, none⟩ = some (.int .u64 ((x.e k).wr : Int)) := by rw [Blk.cell h]; cases k <;> rfl
theorem Wb.w0 (h : Wb w g n r v x) : w.cell? ⟨g, 0, none⟩ = some (.int .i64 (n : Int)) := by rw [Blk.cell h]; rfl
theorem Wb.w15 (h : Wb w g n r v x) : w.cell? ⟨g, 15, none⟩ = some (.bool x.reset) := by rw [Blk.cell h]; rfl
theorem Wb.w16 (h : Wb w g n r v x) : w.cell? ⟨g, 16, none⟩ = some (.int .i64 (x.back : Int)) := by rw [Blk.cell h]; rfl
theorem Wb.w17 (h : Wb w g n r v x) : w.cell? ⟨g, 17, none⟩ = some v := by rw [Blk.cell h]; rfl
theorem Wb.set2 (h : Wb w g n r v x) (k : Bool) (m : Nat) : Wb (w.setCell ⟨g, off k + 2, none⟩ (.int .i64 (m : Int))) g n r v (x.mark k m) := by
  have := Blk.set_ h (off k + 2) (.int .i64 (m : Int)); cases k <;> exact this
theorem Wb.set3 (h : Wb w g n r v x) (k b : Bool) : Wb (w.setCell ⟨g, off k + 3, none⟩ (.bool b)) g n r v (x.set k { x.e k with shut := b }) := by
  have := Blk.set_ h (off k + 3) (.bool b); cases k <;> exact this
theorem Wb.set5 (h : Wb w g n r v x) (k : Bool) (m : Nat) : Wb (w.setCell ⟨g, off k + 5, none⟩ (.int .u64 (m : Int))) g n r v (x.set k { x.e k with rd := m }) := by
  have := Blk.set_ h (off k + 5) (.int .u64 (m : Int)); cases k <;> exact this
theorem Wb.set6 (h : Wb w g n r v x) (k : Bool) (m : Nat) : Wb (w.setCell ⟨g, off k + 6, none⟩ (.int .u64 (m : Int))) g n r v (x.set k { x.e k with wr := m }) := by
  have := Blk.set_ h (off k + 6) (.int .u64 (m : Int)); cases k <;> exact this
/-- What of a wire lies in its block alone. -/
theorem Wb.ring_ (h : Wb w g n r v x) (k : Bool) (bs : List Int) (inn : Nat) : Wb w g n r v (x.set k { x.e k with bs := bs, inn := inn }) := by cases k <;> exact h

theorem canRead_any (h : Wb w g n r v x) (k : Bool) : Calls Tryz.prog 38 #[.pointer (some ⟨g, off k, none⟩)] w fun e w' => e = .returned (.bool (x.e k).can) ∧ ∃ m, w' = w.drewN m := by
  have c4 := h.c4 k
  cases hc : (x.e k).can with
  | true =>
    rw [hc, rp_yes] at c4
    clear h hc
    go_enter Tryz.func38, Tryz.ntmps38
    go_wp2
    go_ret
    exact ⟨rfl, 0, rfl⟩
  | false =>
    rw [hc, rp_no] at c4
    clear h hc
    go_enter Tryz.func38, Tryz.ntmps38
    go_wp2
    go_ret
    exact ⟨rfl, 0, rfl⟩
set_option maxHeartbeats 1000000 in
theorem other_any (h : Wb w g n r v x) (k : Bool) : Calls Tryz.prog 35 #[.pointer (some ⟨g, off k, none⟩)] w fun e w' => e = .returned (.pointer (some ⟨g, off (!k), none⟩)) ∧ ∃ m, w' = w.drewN m := by
  have c0 := h.c0 k
  have c1 := h.c1 k
  have lg := h.lt
  clear h
  cases k with
  | false =>
    rw [show num false = 0 from rfl] at c1
    rw [show off (!false) = 8 from rfl]
    rw [off_f] at c0 c1 ⊢
    go_enter Tryz.func35, Tryz.ntmps35
    go_wp2_with fail
    go_quiet (fail)
    go_wp2
    go_ret
    exact ⟨rfl, _, rfl⟩
  | true =>
    rw [show num true = 1 from rfl] at c1
    rw [show off (!true) = 1 from rfl]
    rw [off_t] at c0 c1 ⊢
    go_enter Tryz.func35, Tryz.ntmps35
    go_wp2_with fail
    go_quiet (fail)
    go_wp2
    go_ret
    exact ⟨rfl, _, rfl⟩
end
end Go.Proofs.YtjejpgognfadoaaGreatDoor
