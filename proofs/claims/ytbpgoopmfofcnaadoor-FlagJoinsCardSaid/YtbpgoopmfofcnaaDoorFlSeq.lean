/-
  The two iterators: the flags of an event, and the features of drivers, each with its word, the lowest bit first; and how a text is cut at its first plus.
-/
import Derived.Test.YtbpgoopmfofcnaaDoorFlLaid
import Derived.Test.YtbpgoopmfofcnaaDoorFlShelf
import Derived.Test.YtbpgoopmfofcnaaDoorCmLow
namespace Go.Proofs.YtbpgoopmfofcnaaDoor
open Go.RowKit Go.Shelf

/-- A bit by its number. -/
def bitV (k : Nat) : Int := 2 ^ k
theorem bitV_0 : bitV 0 = 1 := rfl
theorem bitV_1 : bitV 1 = 2 := rfl
theorem bitV_2 : bitV 2 = 4 := rfl
theorem bitV_3 : bitV 3 = 8 := rfl
theorem bitV_4 : bitV 4 = 16 := rfl
theorem bitV_5 : bitV 5 = 32 := rfl

def encW (k : Nat) : Array Value := #[.int .i64 (bitV k), .string (wordB k)]
def encF (k : Nat) : Array Value := #[.int .i64 (bitV k), .string (featB k)]

theorem TabW.same {W W' : World} (h : TabW W) (hW : ∀ k, k < W.heap.size → W'.heap[k]? = W.heap[k]?) (hz : W.heap.size ≤ W'.heap.size) : TabW W' := by
  have e := hW _ h.lt
  have c : ∀ i, W'.cell? ⟨1, i, none⟩ = W.cell? ⟨1, i, none⟩ := fun i => World.cell?_of_block (a := ⟨_, i, none⟩) e
  exact ⟨Nat.lt_of_lt_of_le h.lt hz, (c _).trans h.c0, (c _).trans h.c1, (c _).trans h.c2, (c _).trans h.c3, (c _).trans h.c4, (c _).trans h.c5⟩
theorem TabF.same {W W' : World} (h : TabF W) (hW : ∀ k, k < W.heap.size → W'.heap[k]? = W.heap[k]?) (hz : W.heap.size ≤ W'.heap.size) : TabF W' := by
  have e := hW _ h.lt
  have c : ∀ i, W'.cell? ⟨2, i, none⟩ = W.cell? ⟨2, i, none⟩ := fun i => World.cell?_of_block (a := ⟨_, i, none⟩) e
  exact ⟨Nat.lt_of_lt_of_le h.lt hz, (c _).trans h.c0, (c _).trans h.c1, (c _).trans h.c2, (c _).trans h.c3⟩
theorem flags_index0 (w : World) : (Instr.index 59 (.agg #[.string (wordB 0), .string (wordB 1), .string (wordB 2), .string (wordB 3), .string (wordB 4), .string (wordB 5)]) (.int .i64 0)).run Tryd.prog w = .ok (.string (wordB 0)) w := by kernel_rfl
theorem flags_index1 (w : World) : (Instr.index 59 (.agg #[.string (wordB 0), .string (wordB 1), .string (wordB 2), .string (wordB 3), .string (wordB 4), .string (wordB 5)]) (.int .i64 1)).run Tryd.prog w = .ok (.string (wordB 1)) w := by kernel_rfl
theorem flags_index2 (w : World) : (Instr.index 59 (.agg #[.string (wordB 0), .string (wordB 1), .string (wordB 2), .string (wordB 3), .string (wordB 4), .string (wordB 5)]) (.int .i64 2)).run Tryd.prog w = .ok (.string (wordB 2)) w := by kernel_rfl
theorem flags_index3 (w : World) : (Instr.index 59 (.agg #[.string (wordB 0), .string (wordB 1), .string (wordB 2), .string (wordB 3), .string (wordB 4), .string (wordB 5)]) (.int .i64 3)).run Tryd.prog w = .ok (.string (wordB 3)) w := by kernel_rfl
theorem flags_index4 (w : World) : (Instr.index 59 (.agg #[.string (wordB 0), .string (wordB 1), .string (wordB 2), .string (wordB 3), .string (wordB 4), .string (wordB 5)]) (.int .i64 4)).run Tryd.prog w = .ok (.string (wordB 4)) w := by kernel_rfl
theorem flags_index5 (w : World) : (Instr.index 59 (.agg #[.string (wordB 0), .string (wordB 1), .string (wordB 2), .string (wordB 3), .string (wordB 4), .string (wordB 5)]) (.int .i64 5)).run Tryd.prog w = .ok (.string (wordB 5)) w := by kernel_rfl
set_option maxRecDepth 100000 in
set_option maxHeartbeats 2000000 in
theorem flags_in (n : Nat) (hn : 1 ≤ n) (l : Nat) (J Jx : List Nat → World → Prop)
    (hY : ∀ pre (x : Nat) W, J pre W → pre.length < 6 → YieldAt Fence.wide (n - 1) Tryd.prog l (encW x) W fun e W' =>
      (e = .returned (.bool true) ∧ J (pre ++ [x]) W' ∧ True) ∨ (e = .returned (.bool false) ∧ Jx (pre ++ [x]) W'))
    (W : World) (hT : TabW W) (h0 : J [] W) :
    CallsIn Fence.wide n Tryd.prog 40 #[.func (.yield l) #[] #[]] W fun e W' => (∃ v, e = .returned v) ∧
      ((∃ ys, ys = List.range 6 ∧ J ys W') ∨ (∃ pre, (∃ r, pre ++ r = List.range 6) ∧ Jx pre W')) := by
  obtain ⟨hlt, c0, c1, c2, c3, c4, c5⟩ := hT
  have x0 := flags_index0
  have x1 := flags_index1
  have x2 := flags_index2
  have x3 := flags_index3
  have x4 := flags_index4
  have x5 := flags_index5
  refine callsIn_of_wp Tryd.func40 rfl trivial ?_ rfl
  simp only [Tryd.ntmps40, List.size_toArray, List.length_cons, List.length_nil, Nat.reduceAdd, Nat.reduceSub, Array.replicate_succ, Array.replicate_zero, List.push_toArray, List.append_toArray, List.nil_append, List.cons_append]
  gi_wp2
  gi_loopw [5] (fun i wr => ∃ k : Nat, k ≤ 6 ∧ i = .int .i64 (k : Int) ∧ J (List.range k) wr) (fun i _ => 6 - (intOf i).toNat)
  case atStart => exact ⟨0, by omega, rfl, h0⟩
  case round =>
    obtain ⟨k, hk, rfl, hJ⟩ := hrel
    obtain rfl | rfl | rfl | rfl | rfl | rfl | rfl : k = 0 ∨ k = 1 ∨ k = 2 ∨ k = 3 ∨ k = 4 ∨ k = 5 ∨ k = 6 := by omega
    · obtain ⟨fn, tmps, assign, body, hy, hR⟩ := hY (List.range 0) 0 wr hJ (by simp)
      simp only [encW, bitV_0] at hy
      gi_wp2_with fail
      clear hy
      refine hR.mono ?_
      rintro e w3 (⟨rfl, hJ3, _⟩ | ⟨rfl, hJx3⟩)
      · have HJ3 := Lib.hid hJ3
        clear hJ3 hJ hR
        gi_wp2
        go_roundw
        case rel => exact ⟨1, by omega, rfl, by rw [List.range_succ]; exact HJ3.out⟩
        case measure => simp [intOf]
      · have HJ3 := Lib.hid hJx3
        clear hJx3 hJ hR
        gi_wp2
        refine bodyPost_ret (results_none rfl _ _ _) rfl ?_
        exact ⟨⟨_, rfl⟩, .inr ⟨_, ⟨[1, 2, 3, 4, 5], rfl⟩, HJ3.out⟩⟩
    · obtain ⟨fn, tmps, assign, body, hy, hR⟩ := hY (List.range 1) 1 wr hJ (by simp)
      simp only [encW, bitV_1] at hy
      gi_wp2_with fail
      clear hy
      refine hR.mono ?_
      rintro e w3 (⟨rfl, hJ3, _⟩ | ⟨rfl, hJx3⟩)
      · have HJ3 := Lib.hid hJ3
        clear hJ3 hJ hR
        gi_wp2
        go_roundw
        case rel => exact ⟨2, by omega, rfl, by rw [List.range_succ]; exact HJ3.out⟩
        case measure => simp [intOf]
      · have HJ3 := Lib.hid hJx3
        clear hJx3 hJ hR
        gi_wp2
        refine bodyPost_ret (results_none rfl _ _ _) rfl ?_
        exact ⟨⟨_, rfl⟩, .inr ⟨_, ⟨[2, 3, 4, 5], rfl⟩, HJ3.out⟩⟩
    · obtain ⟨fn, tmps, assign, body, hy, hR⟩ := hY (List.range 2) 2 wr hJ (by simp)
      simp only [encW, bitV_2] at hy
      gi_wp2_with fail
      clear hy
      refine hR.mono ?_
      rintro e w3 (⟨rfl, hJ3, _⟩ | ⟨rfl, hJx3⟩)
      · have HJ3 := Lib.hid hJ3
        clear hJ3 hJ hR
        gi_wp2
        go_roundw
        case rel => exact ⟨3, by omega, rfl, by rw [List.range_succ]; exact HJ3.out⟩
        case measure => simp [intOf]
      · have HJ3 := Lib.hid hJx3
        clear hJx3 hJ hR
        gi_wp2
        refine bodyPost_ret (results_none rfl _ _ _) rfl ?_
        exact ⟨⟨_, rfl⟩, .inr ⟨_, ⟨[3, 4, 5], rfl⟩, HJ3.out⟩⟩
    · obtain ⟨fn, tmps, assign, body, hy, hR⟩ := hY (List.range 3) 3 wr hJ (by simp)
      simp only [encW, bitV_3] at hy
      gi_wp2_with fail
      clear hy
      refine hR.mono ?_
      rintro e w3 (⟨rfl, hJ3, _⟩ | ⟨rfl, hJx3⟩)
      · have HJ3 := Lib.hid hJ3
        clear hJ3 hJ hR
        gi_wp2
        go_roundw
        case rel => exact ⟨4, by omega, rfl, by rw [List.range_succ]; exact HJ3.out⟩
        case measure => simp [intOf]
      · have HJ3 := Lib.hid hJx3
        clear hJx3 hJ hR
        gi_wp2
        refine bodyPost_ret (results_none rfl _ _ _) rfl ?_
        exact ⟨⟨_, rfl⟩, .inr ⟨_, ⟨[4, 5], rfl⟩, HJ3.out⟩⟩
    · obtain ⟨fn, tmps, assign, body, hy, hR⟩ := hY (List.range 4) 4 wr hJ (by simp)
      simp only [encW, bitV_4] at hy
      gi_wp2_with fail
      clear hy
      refine hR.mono ?_
      rintro e w3 (⟨rfl, hJ3, _⟩ | ⟨rfl, hJx3⟩)
      · have HJ3 := Lib.hid hJ3
        clear hJ3 hJ hR
        gi_wp2
        go_roundw
        case rel => exact ⟨5, by omega, rfl, by rw [List.range_succ]; exact HJ3.out⟩
        case measure => simp [intOf]
      · have HJ3 := Lib.hid hJx3
        clear hJx3 hJ hR
        gi_wp2
        refine bodyPost_ret (results_none rfl _ _ _) rfl ?_
        exact ⟨⟨_, rfl⟩, .inr ⟨_, ⟨[5], rfl⟩, HJ3.out⟩⟩
    · obtain ⟨fn, tmps, assign, body, hy, hR⟩ := hY (List.range 5) 5 wr hJ (by simp)
      simp only [encW, bitV_5] at hy
      gi_wp2_with fail
      clear hy
      refine hR.mono ?_
      rintro e w3 (⟨rfl, hJ3, _⟩ | ⟨rfl, hJx3⟩)
      · have HJ3 := Lib.hid hJ3
        clear hJ3 hJ hR
        gi_wp2
        go_roundw
        case rel => exact ⟨6, by omega, rfl, by rw [List.range_succ]; exact HJ3.out⟩
        case measure => simp [intOf]
      · have HJ3 := Lib.hid hJx3
        clear hJx3 hJ hR
        gi_wp2
        refine bodyPost_ret (results_none rfl _ _ _) rfl ?_
        exact ⟨⟨_, rfl⟩, .inr ⟨_, ⟨[], rfl⟩, HJ3.out⟩⟩
    · have HJ := Lib.hid hJ
      clear hJ
      gi_wp2
      go_end0
      exact ⟨⟨_, rfl⟩, .inl ⟨_, rfl, HJ.out⟩⟩
theorem flags_ch (n : Nat) (hn : 1 ≤ n) (w : World) (hT : TabW w) (Kp : World → World → Prop) :
    SeqCh n Tryd.prog 40 #[] encW Kp (Kept (fun _ => False)) (fun xs _ => xs = List.range 6) (fun pre => ∃ r, pre ++ r = List.range 6) 6 w := fun l J Jx W hW hz _ hY h0 =>
  flags_in n hn l J Jx (fun pre x W1 h1 h2 => (hY pre x W1 h1 h2).mono (by rintro e W' (⟨h, g, _⟩ | h); exact .inl ⟨h, g, trivial⟩; exact .inr h)) W (hT.same hW hz) h0

theorem feats_index0 (w : World) : (Instr.index 60 (.agg #[.string (featB 0), .string (featB 1), .string (featB 2), .string (featB 3)]) (.int .i64 0)).run Tryd.prog w = .ok (.string (featB 0)) w := by kernel_rfl
theorem feats_index1 (w : World) : (Instr.index 60 (.agg #[.string (featB 0), .string (featB 1), .string (featB 2), .string (featB 3)]) (.int .i64 1)).run Tryd.prog w = .ok (.string (featB 1)) w := by kernel_rfl
theorem feats_index2 (w : World) : (Instr.index 60 (.agg #[.string (featB 0), .string (featB 1), .string (featB 2), .string (featB 3)]) (.int .i64 2)).run Tryd.prog w = .ok (.string (featB 2)) w := by kernel_rfl
theorem feats_index3 (w : World) : (Instr.index 60 (.agg #[.string (featB 0), .string (featB 1), .string (featB 2), .string (featB 3)]) (.int .i64 3)).run Tryd.prog w = .ok (.string (featB 3)) w := by kernel_rfl
set_option maxRecDepth 100000 in
set_option maxHeartbeats 2000000 in
theorem feats_in (n : Nat) (hn : 1 ≤ n) (l : Nat) (J Jx : List Nat → World → Prop)
    (hY : ∀ pre (x : Nat) W, J pre W → pre.length < 4 → YieldAt Fence.wide (n - 1) Tryd.prog l (encF x) W fun e W' =>
      (e = .returned (.bool true) ∧ J (pre ++ [x]) W' ∧ True) ∨ (e = .returned (.bool false) ∧ Jx (pre ++ [x]) W'))
    (W : World) (hT : TabF W) (h0 : J [] W) :
    CallsIn Fence.wide n Tryd.prog 43 #[.func (.yield l) #[] #[]] W fun e W' => (∃ v, e = .returned v) ∧
      ((∃ ys, ys = List.range 4 ∧ J ys W') ∨ (∃ pre, (∃ r, pre ++ r = List.range 4) ∧ Jx pre W')) := by
  obtain ⟨hlt, c0, c1, c2, c3⟩ := hT
  have x0 := feats_index0
  have x1 := feats_index1
  have x2 := feats_index2
  have x3 := feats_index3
  refine callsIn_of_wp Tryd.func43 rfl trivial ?_ rfl
  simp only [Tryd.ntmps43, List.size_toArray, List.length_cons, List.length_nil, Nat.reduceAdd, Nat.reduceSub, Array.replicate_succ, Array.replicate_zero, List.push_toArray, List.append_toArray, List.nil_append, List.cons_append]
  gi_wp2
  gi_loopw [5] (fun i wr => ∃ k : Nat, k ≤ 4 ∧ i = .int .i64 (k : Int) ∧ J (List.range k) wr) (fun i _ => 4 - (intOf i).toNat)
  case atStart => exact ⟨0, by omega, rfl, h0⟩
  case round =>
    obtain ⟨k, hk, rfl, hJ⟩ := hrel
    obtain rfl | rfl | rfl | rfl | rfl : k = 0 ∨ k = 1 ∨ k = 2 ∨ k = 3 ∨ k = 4 := by omega
    · obtain ⟨fn, tmps, assign, body, hy, hR⟩ := hY (List.range 0) 0 wr hJ (by simp)
      simp only [encF, bitV_0] at hy
      gi_wp2_with fail
      clear hy
      refine hR.mono ?_
      rintro e w3 (⟨rfl, hJ3, _⟩ | ⟨rfl, hJx3⟩)
      · have HJ3 := Lib.hid hJ3
        clear hJ3 hJ hR
        gi_wp2
        go_roundw
        case rel => exact ⟨1, by omega, rfl, by rw [List.range_succ]; exact HJ3.out⟩
        case measure => simp [intOf]
      · have HJ3 := Lib.hid hJx3
        clear hJx3 hJ hR
        gi_wp2
        refine bodyPost_ret (results_none rfl _ _ _) rfl ?_
        exact ⟨⟨_, rfl⟩, .inr ⟨_, ⟨[1, 2, 3], rfl⟩, HJ3.out⟩⟩
    · obtain ⟨fn, tmps, assign, body, hy, hR⟩ := hY (List.range 1) 1 wr hJ (by simp)
      simp only [encF, bitV_1] at hy
      gi_wp2_with fail
      clear hy
      refine hR.mono ?_
      rintro e w3 (⟨rfl, hJ3, _⟩ | ⟨rfl, hJx3⟩)
      · have HJ3 := Lib.hid hJ3
        clear hJ3 hJ hR
        gi_wp2
        go_roundw
        case rel => exact ⟨2, by omega, rfl, by rw [List.range_succ]; exact HJ3.out⟩
        case measure => simp [intOf]
      · have HJ3 := Lib.hid hJx3
        clear hJx3 hJ hR
        gi_wp2
        refine bodyPost_ret (results_none rfl _ _ _) rfl ?_
        exact ⟨⟨_, rfl⟩, .inr ⟨_, ⟨[2, 3], rfl⟩, HJ3.out⟩⟩
    · obtain ⟨fn, tmps, assign, body, hy, hR⟩ := hY (List.range 2) 2 wr hJ (by simp)
      simp only [encF, bitV_2] at hy
      gi_wp2_with fail
      clear hy
      refine hR.mono ?_
      rintro e w3 (⟨rfl, hJ3, _⟩ | ⟨rfl, hJx3⟩)
      · have HJ3 := Lib.hid hJ3
        clear hJ3 hJ hR
        gi_wp2
        go_roundw
        case rel => exact ⟨3, by omega, rfl, by rw [List.range_succ]; exact HJ3.out⟩
        case measure => simp [intOf]
      · have HJ3 := Lib.hid hJx3
        clear hJx3 hJ hR
        gi_wp2
        refine bodyPost_ret (results_none rfl _ _ _) rfl ?_
        exact ⟨⟨_, rfl⟩, .inr ⟨_, ⟨[3], rfl⟩, HJ3.out⟩⟩
    · obtain ⟨fn, tmps, assign, body, hy, hR⟩ := hY (List.range 3) 3 wr hJ (by simp)
      simp only [encF, bitV_3] at hy
      gi_wp2_with fail
      clear hy
      refine hR.mono ?_
      rintro e w3 (⟨rfl, hJ3, _⟩ | ⟨rfl, hJx3⟩)
      · have HJ3 := Lib.hid hJ3
        clear hJ3 hJ hR
        gi_wp2
        go_roundw
        case rel => exact ⟨4, by omega, rfl, by rw [List.range_succ]; exact HJ3.out⟩
        case measure => simp [intOf]
      · have HJ3 := Lib.hid hJx3
        clear hJx3 hJ hR
        gi_wp2
        refine bodyPost_ret (results_none rfl _ _ _) rfl ?_
        exact ⟨⟨_, rfl⟩, .inr ⟨_, ⟨[], rfl⟩, HJ3.out⟩⟩
    · have HJ := Lib.hid hJ
      clear hJ
      gi_wp2
      go_end0
      exact ⟨⟨_, rfl⟩, .inl ⟨_, rfl, HJ.out⟩⟩
theorem feats_ch (n : Nat) (hn : 1 ≤ n) (w : World) (hT : TabF w) (Kp : World → World → Prop) :
    SeqCh n Tryd.prog 43 #[] encF Kp (Kept (fun _ => False)) (fun xs _ => xs = List.range 4) (fun pre => ∃ r, pre ++ r = List.range 4) 4 w := fun l J Jx W hW hz _ hY h0 =>
  feats_in n hn l J Jx (fun pre x W1 h1 h2 => (hY pre x W1 h1 h2).mono (by rintro e W' (⟨h, g, _⟩ | h); exact .inl ⟨h, g, trivial⟩; exact .inr h)) W (hT.same hW hz) h0

end Go.Proofs.YtbpgoopmfofcnaaDoor
