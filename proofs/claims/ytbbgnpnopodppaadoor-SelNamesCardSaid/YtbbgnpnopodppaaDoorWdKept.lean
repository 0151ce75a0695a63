/-
  What a world keeps: its block of a hundred cells; the descriptors that are open, or free, one by one.
-/
import Derived.Test.YtbbgnpnopodppaaDoorSeBase
namespace Go.Proofs.YtbbgnpnopodppaaDoor
open Go.RowKit Go.Maps Go.ChangeMaps Go.Shelf

attribute [local go_sem] Oper.semAt_some

/-- Rows of numbers. -/
def RI : RowK Tryd.prog Nat where
  e := 3
  s := 67
  n := 1
  bytes := 8
  zero := .int .i64 0
  enc := fun z => [.int .i64 (z : Int)]
  pos := by decide
  by_ := by decide
  len := fun _ => rfl
  one := fun x u hu => by
    simp at hu
    subst hu; rfl
  und := Tryd.underlying67
  info := by kernel_rfl
  zs := by decide

/-- The cells of what a world keeps: ticks, wires, the descriptors' pointers, signals, the notice. -/
def cellsK (now : Nat) (wv : Value) (pv : Nat → Option Addr) (sv nv : Value) : Array Value := (.int .u64 (now : Int) :: wv :: ((List.range 96).map fun i => Value.pointer (pv i)) ++ [sv, nv]).toArray
theorem cellsK_size (now : Nat) (wv : Value) (pv : Nat → Option Addr) (sv nv : Value) : (cellsK now wv pv sv nv).size = 100 := by simp [cellsK]
theorem cellsK_fd (now : Nat) (wv : Value) (pv : Nat → Option Addr) (sv nv : Value) {i : Nat} (hi : i < 96) : (cellsK now wv pv sv nv)[2 + i]? = some (.pointer (pv i)) := by
  unfold cellsK
  rw [Nat.add_comm 2 i]
  simp [List.getElem?_append_left, hi]
theorem cellsK_sv (now : Nat) (wv : Value) (pv : Nat → Option Addr) (sv nv : Value) : (cellsK now wv pv sv nv)[98]? = some sv := by
  unfold cellsK
  simp
theorem cellsK_nv (now : Nat) (wv : Value) (pv : Nat → Option Addr) (sv nv : Value) : (cellsK now wv pv sv nv)[99]? = some nv := by
  unfold cellsK
  simp
def Kb (W : World) (g now : Nat) (wv : Value) (pv : Nat → Option Addr) (sv nv : Value) : Prop := Blk W g 47 (cellsK now wv pv sv nv)
def updA (f : Nat → Option Addr) (i : Nat) (v : Option Addr) : Nat → Option Addr := fun j => if j = i then v else f j
section
variable {w w' : World} {g now : Nat} {wv : Value} {pv : Nat → Option Addr} {sv nv : Value}
theorem Kb.lt (h : Kb w g now wv pv sv nv) : g < w.heap.size := Blk.lt h
theorem Kb.same (h : Kb w g now wv pv sv nv) (e : w'.heap[g]? = w.heap[g]?) : Kb w' g now wv pv sv nv := Blk.same h e
theorem Kb.frozen (h : Kb w g now wv pv sv nv) (i : Nat) : w.frozen? ⟨g, i, none⟩ = false := Blk.frozen h i
theorem Kb.c0 (h : Kb w g now wv pv sv nv) : w.cell? ⟨g, 0, none⟩ = some (.int .u64 (now : Int)) := by rw [Blk.cell h]; rfl
theorem Kb.c1 (h : Kb w g now wv pv sv nv) : w.cell? ⟨g, 1, none⟩ = some wv := by rw [Blk.cell h]; rfl
theorem Kb.fd (h : Kb w g now wv pv sv nv) {i : Nat} (hi : i < 96) : w.cell? ⟨g, 2 + i, none⟩ = some (.pointer (pv i)) := (Blk.cell h _).trans (cellsK_fd _ _ _ _ _ hi)
theorem Kb.c98 (h : Kb w g now wv pv sv nv) : w.cell? ⟨g, 98, none⟩ = some sv := (Blk.cell h _).trans (cellsK_sv _ _ _ _ _)
theorem Kb.c99 (h : Kb w g now wv pv sv nv) : w.cell? ⟨g, 99, none⟩ = some nv := (Blk.cell h _).trans (cellsK_nv _ _ _ _ _)
theorem Kb.set0 (h : Kb w g now wv pv sv nv) (m : Nat) : Kb (w.setCell ⟨g, 0, none⟩ (.int .u64 (m : Int))) g m wv pv sv nv := by
  have := Blk.set_ h 0 (.int .u64 (m : Int)); exact this
theorem Kb.set1 (h : Kb w g now wv pv sv nv) (v : Value) : Kb (w.setCell ⟨g, 1, none⟩ v) g now v pv sv nv := by
  have := Blk.set_ h 1 v; exact this
theorem Kb.setFd (h : Kb w g now wv pv sv nv) {i : Nat} (hi : i < 96) (a : Option Addr) : Kb (w.setCell ⟨g, 2 + i, none⟩ (.pointer a)) g now wv (updA pv i a) sv nv := by
  have := Blk.set_ h (2 + i) (.pointer a)
  rw [show (cellsK now wv pv sv nv).setIfInBounds (2 + i) (.pointer a) = cellsK now wv (updA pv i a) sv nv from by
    unfold cellsK
    apply Array.ext_getElem?
    intro j
    rw [Nat.add_comm 2 i]
    simp only [List.setIfInBounds_toArray, List.getElem?_toArray, List.cons_append, List.set_cons_succ]
    rcases j with _ | _ | j
    · rfl
    · rfl
    · simp only [List.getElem?_cons_succ, List.getElem?_set, List.getElem?_append, List.length_map, List.length_range, List.length_append, List.length_cons, List.length_nil, List.getElem?_map]
      by_cases h1 : i = j
      · subst h1
        have h2 : i < 96 + (0 + 1 + 1) := by omega
        simp [hi, h2, updA]
      · by_cases h2 : j < 96
        · have h3 : ¬ j = i := fun e => h1 e.symm
          simp [h1, h2, updA, h3]
        · simp [h1, h2]] at this
  exact this
theorem Kb.set99 (h : Kb w g now wv pv sv nv) (v : Value) : Kb (w.setCell ⟨g, 99, none⟩ v) g now wv pv sv v := by
  have := Blk.set_ h 99 v; exact this
end

/-- The numbers below k that are open, or free. -/
def numsA (pv : Nat → Option Addr) (b : Bool) (k : Nat) : List Nat := (List.range k).filter fun i => (pv i).isSome == b
theorem numsA_succ (pv : Nat → Option Addr) (b : Bool) (k : Nat) : numsA pv b (k + 1) = if (pv k).isSome == b then numsA pv b k ++ [k] else numsA pv b k := by
  unfold numsA
  rw [List.range_succ, List.filter_append]
  by_cases h : ((pv k).isSome == b) = true
  · rw [if_pos h]; simp [h]
  · rw [if_neg h]; simp [h]
theorem numsA_split (pv : Nat → Option Addr) (b : Bool) {i : Nat} (hi : i < 96) (hc : ((pv i).isSome == b) = true) : ∃ R, numsA pv b i ++ i :: R = numsA pv b 96 := by
  have h : ∀ j, ∃ R, numsA pv b (i + 1 + j) = numsA pv b (i + 1) ++ R := fun j => by
    induction j with
    | zero => exact ⟨[], by simp⟩
    | succ j ih =>
      obtain ⟨R, hR⟩ := ih
      rw [← Nat.add_assoc, numsA_succ]
      split
      · exact ⟨R ++ [i + 1 + j], by rw [hR, List.append_assoc]⟩
      · exact ⟨R, hR⟩
  obtain ⟨R, hR⟩ := h (95 - i)
  have e1 : numsA pv b (i + 1) = numsA pv b i ++ [i] := by rw [numsA_succ, if_pos hc]
  rw [show i + 1 + (95 - i) = 96 by omega, e1] at hR
  exact ⟨R, by rw [hR]; simp⟩
theorem numsA_len (pv : Nat → Option Addr) (b : Bool) (k : Nat) : (numsA pv b k).length ≤ k := by
  have := List.length_filter_le (fun i => (pv i).isSome == b) (List.range k)
  rw [List.length_range] at this
  exact this

def encI (i : Nat) : Array Value := #[.int .i64 (i : Int)]
/-- Behind a number that was told. -/
def NumFin (J Jx : List Nat → World → Prop) (O : Obj → Prop) (N : Nat) (Pr : Nat → Prop) (xs : List Nat) (W1 : World) (more : Bool) (W' : World) : Prop := (more = true → J xs W') ∧ (more = false → Jx xs W') ∧ KpO O N Pr W1 W'
theorem numbers_call (w : World) (g : Nat) (b : Bool) : Calls Tryd.prog 53 #[.pointer (some ⟨g, 0, none⟩), .bool b] w fun e w' =>
    e = .returned (.func (.func 59) #[] #[.pointer (some ⟨w.heap.size, 0, none⟩), .pointer (some ⟨w.heap.size + 1, 0, none⟩)]) ∧ w' = (w.alloc (.cells #[.pointer (some ⟨g, 0, none⟩)] 48)).alloc (.cells #[.bool b] 4) := by
  go_enter Tryd.func53, Tryd.ntmps53
  go_wp2
  go_ret
  exact ⟨rfl, rfl⟩

set_option maxRecDepth 100000 in
set_option maxHeartbeats 8000000 in
theorem num_o (n : Nat) (hn : 1 ≤ n) {w : World} {g now : Nat} {wv : Value} {pv : Nat → Option Addr} {sv nv : Value} (b : Bool) (hT : Kb w g now wv pv sv nv) (bK bB : Nat) (hK : Boxed w bK 48 (.pointer (some ⟨g, 0, none⟩))) (hb : Boxed w bB 4 (.bool b))
    (O : Obj → Prop) (Pr : Nat → Prop) (N : Nat) (hN : bK < N ∧ Pr bK) (hN2 : bB < N ∧ Pr bB) (hk : g < N ∧ Pr g) :
    SeqO n Tryd.prog 59 #[.pointer (some ⟨bK, 0, none⟩), .pointer (some ⟨bB, 0, none⟩)] encI O Pr (fun xs => xs = numsA pv b 96) (fun _ => True) (fun pre x => ∃ R, pre ++ x :: R = numsA pv b 96) N w := by
  intro l J Jx W hz hW hJ hJx hY h0
  have b1 : Kb W g now wv pv sv nv := hT.same (hW g hk.1)
  have k1 : Boxed W bK 48 (.pointer (some ⟨g, 0, none⟩)) := (hW bK hN.1).trans hK
  have k2 : Boxed W bB 4 (.bool b) := (hW bB hN2.1).trans hb
  have HY := Lib.hid hY
  have H0 := Lib.hid (And.intro h0 (And.intro b1 (And.intro k1 k2)))
  have HP := Lib.hid (And.intro hN (And.intro hN2 hk))
  have HJd := Lib.hid hJ
  clear hJ hJx hY h0 hW b1 k1 k2 hT hK hb hN hN2 hk
  refine callsIn_of_wp Tryd.func59 rfl trivial ?_ rfl
  simp only [Tryd.ntmps59, List.size_toArray, List.length_cons, List.length_nil, Nat.reduceAdd, Nat.reduceSub, Array.replicate_succ, Array.replicate_zero, List.push_toArray, List.append_toArray, List.nil_append, List.cons_append]
  gi_wp2_with fail
  gi_loopw [5] (fun v wr => ∃ i : Nat, v = .int .i64 (i : Int) ∧ i ≤ 96 ∧ J (numsA pv b i) wr ∧ Kb wr g now wv pv sv nv ∧ Boxed wr bK 48 (.pointer (some ⟨g, 0, none⟩)) ∧ Boxed wr bB 4 (.bool b)) (fun v _ => 96 - (intOf v).toNat)
  case atStart => exact ⟨0, rfl, Nat.zero_le _, H0.out⟩
  case round =>
    obtain ⟨i, rfl, hi, hJ1, hT1, hK1, hB1⟩ := hrel
    by_cases hlt : i < 96
    · have b0 : (0 : Int) ≤ (i : Int) := by omega
      have b1 : (i : Int) < 96 := by omega
      have c1 := hT1.fd hlt
      have cK := hK1.cell
      have cB := hB1.cell
      have lk := hT1.lt
      have lK := hK1.lt
      have lB := hB1.lt
      cases hp : pv i with
      | none =>
        rcases Bool.eq_false_or_eq_true b with hb | hb
        · skip
          have HR := Lib.hid (show J (numsA pv b (i + 1)) wr ∧ Kb wr g now wv pv sv nv ∧ Boxed wr bK 48 (.pointer (some ⟨g, 0, none⟩)) ∧ Boxed wr bB 4 (.bool b) by
            rw [numsA_succ, if_neg (by rw [hp]; simp [hb])]; exact ⟨hJ1, hT1, hK1, hB1⟩)
          rw [hp] at c1
          rw [hb] at cB
          clear hJ1 hT1 hK1 hB1 hp
          gi_wp2_with fail
          refine wpIn_wide.2 ?_
          go_quiet (fail)
          gi_wp2_with fail
          go_roundw
          case rel => exact ⟨i + 1, by go_num, by omega, HJd.out _ _ _ HR.out.1 (ChO.of_kept ((Kept.refl _ wr).drewN nq)), HR.out.2⟩
          case measure => simp [intOf] <;> omega
        · skip
          have hq : ((pv i).isSome == b) = true := by rw [hp]; simp [hb]
          obtain ⟨fn, tmps, assign, body, hy, hRd⟩ := HY.out (numsA pv b i) i wr.drew (HJd.out _ _ _ hJ1 (ChO.of_kept ((Kept.refl _ wr).drewN 1))) (numsA_split pv b hlt hq)
          have HE := Lib.hid (And.intro (show numsA pv b (i + 1) = numsA pv b i ++ [i] by rw [numsA_succ, if_pos hq]) (And.intro hT1 (And.intro hK1 hB1)))
          rw [hp] at c1
          rw [hb] at cB
          simp only [encI] at hy
          clear hJ1 hT1 hK1 hB1 hp hq
          have hR3 : RoundIn Fence.wide (n - 1) Tryd.prog l fn tmps assign body wr.drew fun e W' => ∃ more : Bool, e = .returned (.bool more) ∧ NumFin J Jx O N Pr (numsA pv b i ++ [i]) wr.drew more W' := by
            refine hRd.mono ?_
            rintro e W4 ⟨(⟨rfl, h1⟩ | ⟨rfl, h1⟩), h2⟩
            · exact ⟨true, rfl, fun _ => h1, (fun e => by cases e), h2⟩
            · exact ⟨false, rfl, (fun e => by cases e), fun _ => h1, h2⟩
          clear hRd
          have hmx : Tryd.prog.follows .mixedOrders = true := by kernel_rfl
          gi_wp2_with fail
          gi_region_with_o (refine hR3.mono ?_; rintro e W4 ⟨more, rfl, hF⟩)
          all_goals (
            have HF := Lib.hid hF
            clear hF hy hR3
            cases more with
            | true =>
              obtain ⟨he, hT1, hK1, hB1⟩ := HE.out
              obtain ⟨f1, _, f3⟩ := HF.out
              obtain ⟨hN, hN2, hk⟩ := HP.out
              have HR := Lib.hid (show J (numsA pv b (i + 1)) W4 ∧ Kb W4 g now wv pv sv nv ∧ Boxed W4 bK 48 (.pointer (some ⟨g, 0, none⟩)) ∧ Boxed W4 bB 4 (.bool b) from
                ⟨he ▸ f1 rfl, hT1.same (f3.low g hk.1 hT1.lt hk.2), (f3.low bK hN.1 hK1.lt hN.2).trans hK1, (f3.low bB hN2.1 hB1.lt hN2.2).trans hB1⟩)
              clear f1 f3 hT1 hK1 hB1 he hN hN2 hk
              gi_wp2_with fail
              go_roundw
              case rel => exact ⟨i + 1, by go_num, by omega, HR.out⟩
              case measure => simp [intOf] <;> omega
            | false =>
              gi_wp2_with fail
              refine bodyPost_ret (results_none rfl _ _ _) rfl ?_
              exact ⟨⟨_, rfl⟩, .inr ⟨_, trivial, HF.out.2.1 rfl⟩⟩)
      | some a =>
        rcases Bool.eq_false_or_eq_true b with hb | hb
        · skip
          have hq : ((pv i).isSome == b) = true := by rw [hp]; simp [hb]
          obtain ⟨fn, tmps, assign, body, hy, hRd⟩ := HY.out (numsA pv b i) i wr.drew (HJd.out _ _ _ hJ1 (ChO.of_kept ((Kept.refl _ wr).drewN 1))) (numsA_split pv b hlt hq)
          have HE := Lib.hid (And.intro (show numsA pv b (i + 1) = numsA pv b i ++ [i] by rw [numsA_succ, if_pos hq]) (And.intro hT1 (And.intro hK1 hB1)))
          rw [hp] at c1
          rw [hb] at cB
          simp only [encI] at hy
          clear hJ1 hT1 hK1 hB1 hp hq
          have hR3 : RoundIn Fence.wide (n - 1) Tryd.prog l fn tmps assign body wr.drew fun e W' => ∃ more : Bool, e = .returned (.bool more) ∧ NumFin J Jx O N Pr (numsA pv b i ++ [i]) wr.drew more W' := by
            refine hRd.mono ?_
            rintro e W4 ⟨(⟨rfl, h1⟩ | ⟨rfl, h1⟩), h2⟩
            · exact ⟨true, rfl, fun _ => h1, (fun e => by cases e), h2⟩
            · exact ⟨false, rfl, (fun e => by cases e), fun _ => h1, h2⟩
          clear hRd
          have hmx : Tryd.prog.follows .mixedOrders = true := by kernel_rfl
          gi_wp2_with fail
          gi_region_with_o (refine hR3.mono ?_; rintro e W4 ⟨more, rfl, hF⟩)
          all_goals (
            have HF := Lib.hid hF
            clear hF hy hR3
            cases more with
            | true =>
              obtain ⟨he, hT1, hK1, hB1⟩ := HE.out
              obtain ⟨f1, _, f3⟩ := HF.out
              obtain ⟨hN, hN2, hk⟩ := HP.out
              have HR := Lib.hid (show J (numsA pv b (i + 1)) W4 ∧ Kb W4 g now wv pv sv nv ∧ Boxed W4 bK 48 (.pointer (some ⟨g, 0, none⟩)) ∧ Boxed W4 bB 4 (.bool b) from
                ⟨he ▸ f1 rfl, hT1.same (f3.low g hk.1 hT1.lt hk.2), (f3.low bK hN.1 hK1.lt hN.2).trans hK1, (f3.low bB hN2.1 hB1.lt hN2.2).trans hB1⟩)
              clear f1 f3 hT1 hK1 hB1 he hN hN2 hk
              gi_wp2_with fail
              go_roundw
              case rel => exact ⟨i + 1, by go_num, by omega, HR.out⟩
              case measure => simp [intOf] <;> omega
            | false =>
              gi_wp2_with fail
              refine bodyPost_ret (results_none rfl _ _ _) rfl ?_
              exact ⟨⟨_, rfl⟩, .inr ⟨_, trivial, HF.out.2.1 rfl⟩⟩)
        · skip
          have HR := Lib.hid (show J (numsA pv b (i + 1)) wr ∧ Kb wr g now wv pv sv nv ∧ Boxed wr bK 48 (.pointer (some ⟨g, 0, none⟩)) ∧ Boxed wr bB 4 (.bool b) by
            rw [numsA_succ, if_neg (by rw [hp]; simp [hb])]; exact ⟨hJ1, hT1, hK1, hB1⟩)
          rw [hp] at c1
          rw [hb] at cB
          clear hJ1 hT1 hK1 hB1 hp
          gi_wp2_with fail
          refine wpIn_wide.2 ?_
          go_quiet (fail)
          gi_wp2_with fail
          go_roundw
          case rel => exact ⟨i + 1, by go_num, by omega, HJd.out _ _ _ HR.out.1 (ChO.of_kept ((Kept.refl _ wr).drewN nq)), HR.out.2⟩
          case measure => simp [intOf] <;> omega
    · obtain rfl : i = 96 := by omega
      have HE := Lib.hid hJ1
      clear hJ1 hT1 hK1 hB1
      gi_wp2_with fail
      go_end0
      exact ⟨⟨_, rfl⟩, .inl ⟨_, rfl, HE.out⟩⟩
end Go.Proofs.YtbbgnpnopodppaaDoor
