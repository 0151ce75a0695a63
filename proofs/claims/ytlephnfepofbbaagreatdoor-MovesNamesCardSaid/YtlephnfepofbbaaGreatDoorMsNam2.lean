/-
  The chapter's examples: rows that are made; moves that may not be.
-/
import Derived.Test.YtlephnfepofbbaaGreatDoorMsNam
import Derived.Test.YtlephnfepofbbaaGreatDoorMsBase
import Derived.Laws.MakeOwn
namespace Go.Proofs.YtlephnfepofbbaaGreatDoor
open Go.RowKit Go.Shelf Go.Maps Go.ChangeMaps

theorem info_of4 {o : Option TypeInfo} {z : Option Value} {s b : Nat} (h : o.map (fun i => (i.zero, i.size, i.bytes)) = some (z, s, b)) : ∃ i, o = some i ∧ i.zero = z ∧ i.size = s ∧ i.bytes = b := info_of h
def zB : List UInt8 := List.replicate 1001 0
theorem made_zero (k : Nat) : madeCells (Value.cells (.int .u8 0)) (k * 1) = (Lib.byteCells (List.replicate k 0)).toArray := by
  apply Array.toList_inj.1
  refine List.ext_getElem? fun j => ?_
  simp [madeCells, Lib.byteCells, Value.cells]
  by_cases hj : j < k
  · simp [hj, Array.getElem?_range, List.getElem?_replicate, Nat.mod_one]
  · simp [hj, List.getElem?_replicate]
theorem mk_any (k : Nat) (hk : k ≤ 100000) (w : World) : (Instr.makeSlice 23 (.int .i64 (k : Int)) (.int .i64 (k : Int))).run Tryz.prog w = .ok (.slice (some ⟨w.heap.size, 0, none⟩) k k) (w.alloc (.cells (Lib.byteCells (List.replicate k 0)).toArray 5)) := by
  obtain ⟨i, hi, h1, h2, h3⟩ := info_of infoBy
  have := run_make (P := Tryz.prog) w 23 5 i (.int .u8 0) Tryz.underlying23 hi h1 .i64 .i64 (k : Int) (k : Int) (by omega) (by omega) (by rw [h3]; omega) (by omega)
  rw [this, h2, Int.toNat_natCast, made_zero k]
theorem mk_bytes (w : World) : (Instr.makeSlice 23 (.int .i64 1001) (.int .i64 1001)).run Tryz.prog w = .ok (.slice (some ⟨w.heap.size, 0, none⟩) 1001 1001) (w.alloc (.cells (Lib.byteCells zB).toArray 5)) := mk_any 1001 (by decide) w
def zS : Value := .agg #[.int .u64 0, .bool false, .slice none 0 0, .slice none 0 0]
def stZ : St := ⟨0, false, [], []⟩
theorem infoSt : (Tryz.prog.info? 36).map (fun i => (i.zero, i.size, i.bytes)) = some (some zS, 4, 64) := by kernel_rfl
theorem mk_steps (w : World) : (Instr.makeSlice 37 (.int .i64 2001) (.int .i64 2001)).run Tryz.prog w = .ok (.slice (some ⟨w.heap.size, 0, none⟩) 2001 2001) (w.alloc (.cells (madeCells #[.int .u64 0, .bool false, .slice none 0 0, .slice none 0 0] 8004) 36)) := by
  obtain ⟨i, hi, h1, h2, h3⟩ := info_of infoSt
  have := run_make (P := Tryz.prog) w 37 36 i zS Tryz.underlying37 hi h1 .i64 .i64 2001 2001 (by omega) (by omega) (by rw [h3]; omega) (by omega)
  rw [this, h2]
  rfl
theorem zS_cells : zS.cells = #[.int .u64 0, .bool false, .slice none 0 0, .slice none 0 0] := rfl
theorem made_src (w : World) : SrcS (Lt (w.alloc (.cells (madeCells #[.int .u64 0, .bool false, .slice none 0 0, .slice none 0 0] 8004) 36)).heap.size) (w.alloc (.cells (madeCells #[.int .u64 0, .bool false, .slice none 0 0, .slice none 0 0] 8004) 36)) (.slice (some ⟨w.heap.size, 0, none⟩) 2001 2001) (List.replicate 2001 stZ) := by
  refine ⟨List.replicate 2001 (stZ, .slice none 0 0, .slice none 0 0), List.map_replicate, ?_, fun p hp => ?_⟩
  · rw [List.length_replicate]
    refine ⟨_, 2001, rfl, Nat.le_refl _, by decide, (fun e => by cases e), fun _ => ⟨w.heap.size, 0, rfl, by simp [Lt], by simp, fun j u hu => ?_⟩⟩
    have hj : j < 8004 := by
      have := (List.getElem?_eq_some_iff.1 hu).1
      rw [flat4_len encS (fun _ => rfl), List.length_replicate] at this
      omega
    have h1 := flat4_at encS (fun _ => rfl) (List.replicate 2001 (stZ, Value.slice none 0 0, Value.slice none 0 0)) (j / 4) (stZ, .slice none 0 0, .slice none 0 0) (j % 4) (by rw [List.getElem?_replicate, if_pos (by omega)]) (by omega)
    rw [show j / 4 * 4 + j % 4 = j by omega, hu] at h1
    have hb : (w.alloc (.cells (madeCells #[.int .u64 0, .bool false, .slice none 0 0, .slice none 0 0] 8004) 36)).heap[w.heap.size]? = some (.cells (madeCells #[.int .u64 0, .bool false, .slice none 0 0, .slice none 0 0] 8004) 36 (0, 0)) := heap_alloc_new w _
    rw [cell_of_row _ _ (0 + j) _ _ _ hb, Nat.zero_add, h1]
    have : j % 4 = 0 ∨ j % 4 = 1 ∨ j % 4 = 2 ∨ j % 4 = 3 := by omega
    have hm : (madeCells #[.int .u64 0, .bool false, .slice none 0 0, .slice none 0 0] 8004)[j]? = (#[.int .u64 0, .bool false, .slice none 0 0, .slice none 0 0] : Array Value)[j % 4]? := by
      rcases this with e | e | e | e <;> simp [madeCells, hj, Array.getElem?_range, e]
    rw [hm]
    rcases this with e | e | e | e <;> rw [e] <;> rfl
  · obtain rfl := List.eq_of_mem_replicate hp
    exact ⟨Sh.nil _ _, [], rfl, Sh.nil _ _, fun q hq => by cases hq⟩
end Go.Proofs.YtlephnfepofbbaaGreatDoor
