/-
  The contract of package fdset's members, a range over a function: it tells a set's members, rising, till a round says no more.
-/
import Derived.Test.YthpinbngggcgcaaDoorBitFns
import Derived.Test.YthpinbngggcgcaaDoorWord
import Derived.Test.YthpinbngggcgcaaDoorSets
import Derived.RangeFuncNested
import Derived.RangeFuncBound
import Derived.RangeFuncCalls
import Derived.RangeFuncLeaves
import Derived.Shelf.Abstract
import Derived.Shelf.RegionOpen
import Derived.OwnWalkIn
import Derived.TacticsInMore
import Derived.LoopNIn
import Derived.LoopIn
import Derived.Lib.TrailingZeros
namespace Go.Proofs.YthpinbngggcgcaaDoor
open Go.RowKit Go.Shelf

attribute [local go_sem] Oper.semAt_some

/-- A descriptor. -/
abbrev M := { x : Nat // x < 64 }
/-- The members so far. -/
def valsOf (l : List M) : List Nat := l.map (fun x => x.1)
theorem valsOf_snoc (l : List M) (x : M) : valsOf (l ++ [x]) = valsOf l ++ [x.1] := by simp [valsOf]
/-- The table of the lowest bits lies in its variable. -/
def Tab (w : World) : Prop := TabAt 0 Lib.deBruijn32tab w
theorem Tab.below {n₀ : Nat} {w w' : World} (h : Tab w) (hg : 0 < n₀) (hb : Below n₀ w w') : Tab w' := fun j hj => (hb.cell (p := ⟨0, j, none⟩) hg).trans (h j hj)

theorem and_pred (x : Nat) (h0 : 0 < x) (hx : x < 4294967296) : bits BinOp.and IntKind.u32 (x : Int) ((x : Int) - 1) = ((x &&& (x - 1) : Nat) : Int) := by
  rw [show (x : Int) - 1 = ((x - 1 : Nat) : Int) from by omega, u32_and_nat x _ hx (by omega)]

set_option maxRecDepth 100000 in
set_option maxHeartbeats 4000000 in
theorem members1_in (n : Nat) (hn : 1 ≤ n) (l Bn n₀ : Nat) (hg : 0 < n₀) (a b : Nat) (ha : a < 4294967296) (hb : b < 4294967296) (J Jx : List M → World → Prop)
    (hY : ∀ pre (x : M) W, J pre W → pre.length < (mem a b).length → YieldAt Fence.wide (n - 1) Tryd.prog l #[.int .i64 (x.1 : Int)] W fun e W' =>
      (e = .returned (.bool true) ∧ J (pre ++ [x]) W' ∧ Below n₀ W W') ∨ (e = .returned (.bool false) ∧ Jx (pre ++ [x]) W'))
    (W : World) (hs : IsSet W Bn a b) (hT : Tab W) (h0 : J [] W) :
    CallsIn Fence.wide n Tryd.prog 46 #[.func (.yield l) #[] #[], .pointer (some ⟨Bn, 0, none⟩)] W fun e W' => (∃ v, e = .returned v) ∧
      ((∃ ys, valsOf ys = mem a b ∧ J ys W') ∨ (∃ pre, valsOf pre <+: mem a b ∧ Jx pre W')) := by
  obtain ⟨p0, p1, _, _⟩ := hs
  have j0 : ∀ w, (Instr.index 25 (.agg #[.int .u32 (a : Int), .int .u32 (b : Int)]) (.int .i64 0)).run Tryd.prog w = .ok (.int .u32 (a : Int)) w := fun _ => by kernel_rfl
  have j1 : ∀ w, (Instr.index 25 (.agg #[.int .u32 (a : Int), .int .u32 (b : Int)]) (.int .i64 1)).run Tryd.prog w = .ok (.int .u32 (b : Int)) w := fun _ => by kernel_rfl
  refine callsIn_of_wp Tryd.func46 rfl trivial ?_ rfl
  simp only [Tryd.ntmps46, List.size_toArray, List.length_cons, List.length_nil, Nat.reduceAdd, Nat.reduceSub, Array.replicate_succ, Array.replicate_zero, List.push_toArray, List.append_toArray, List.nil_append, List.cons_append]
  gi_wp2
  gi_loopw [3, 4, 6] (fun _ _ i wr => ∃ pre : List M, ((i = .int .i64 0 ∧ pre = []) ∨ (i = .int .i64 1 ∧ valsOf pre = wl a) ∨ (i = .int .i64 2 ∧ valsOf pre = mem a b)) ∧ J pre wr ∧ Hid (Tab wr))
    (fun _ _ i _ => 2 - (intOf i).toNat)
  case atStart => exact ⟨[], .inl ⟨rfl, rfl⟩, h0, hT⟩
  case round =>
    obtain ⟨pre0, hi, hJ0, HT0⟩ := hrel
    rcases hi with ⟨rfl, rfl⟩ | ⟨rfl, hv⟩ | ⟨rfl, hv⟩
    · obtain ⟨wo, rfl⟩ : ∃ wo : World, wo = wr := ⟨_, rfl⟩
      gi_wp2
      gi_loopw [4] (fun t wr => ∃ (pre : List M) (x : Nat), t = .int .u32 (x : Int) ∧ x < 4294967296 ∧ Hid (valsOf pre ++ wl x = wl a) ∧ J pre wr ∧ Hid (Tab wr))
        (fun t _ => (intOf t).toNat)
      case atStart => exact ⟨[], a, rfl, ha, rfl, hJ0, HT0⟩
      case round =>
        obtain ⟨pre, x, rfl, hx, Hpre, hJ, HT⟩ := hrel
        by_cases hx0 : x = 0
        · subst hx0
          have hfin : valsOf pre = wl a := by have := Hpre.out; rwa [wl_zero, List.append_nil] at this
          have Hfin := Lib.hid hfin
          clear hfin
          gi_wp2
          go_roundw
          case rel => exact ⟨pre, .inr (.inl ⟨rfl, Hfin.out⟩), hJ, HT⟩
          case measure => simp [intOf]
        · have hpos : 0 < x := by omega
          have hne : ((x : Int) != 0) = true := by rw [bne_iff_ne]; omega
          obtain ⟨hst, hc⟩ := wl_step x hpos hx
          obtain ⟨c, hcc⟩ : ∃ c, Lib.ctz 32 x = c := ⟨_, rfl⟩
          rw [hcc] at hst hc
          have hct := ctz_any x hpos hx wr HT.out
          rw [hcc] at hct
          have Hct := Lib.hid hct
          have hlen : pre.length < (mem a b).length := by
            have h1 := congrArg List.length Hpre.out
            rw [hst, List.length_append, List.length_cons] at h1
            have h2 : (valsOf pre).length = pre.length := by simp [valsOf]
            rw [mem_wl, List.length_append]; omega
          obtain ⟨fn, tmps, assign, body, hy, hR⟩ := hY pre ⟨c, Nat.lt_of_lt_of_le hc (by decide)⟩ wr hJ hlen
          dsimp only at hy
          have Hst := Lib.hid hst
          have hle := and_pred_lt x hpos
          have Hlen := Lib.hid hlen
          clear hcc hst hct hlen hx0
          gi_wp2_with (refine ⟨trivial, ?_⟩; gi_at_call 47; refine (callsIn_wide.2 Hct.out).mono ?_; rintro e w2 ⟨rfl, rfl⟩)
          refine hR.mono ?_
          rintro e w3 (⟨rfl, hJ3, hk3⟩ | ⟨rfl, hJx3⟩)
          · gi_wp2
            rw [and_pred x hpos hx]
            go_roundw
            case rel => exact ⟨pre ++ [⟨c, Nat.lt_of_lt_of_le hc (by decide)⟩], x &&& (x - 1), rfl, by omega, by unfold Hid; rw [valsOf_snoc, ← Hpre.out, Hst.out]; simp, hJ3, HT.out.below hg hk3⟩
            case measure => simp [intOf]; omega
          · gi_wp2
            refine bodyPost_ret (results_none rfl _ _ _) rfl ?_
            exact ⟨⟨_, rfl⟩, .inr ⟨pre ++ [⟨c, Nat.lt_of_lt_of_le hc (by decide)⟩], by rw [valsOf_snoc, mem_wl, ← Hpre.out, Hst.out]; exact ⟨wl (x &&& (x - 1)) ++ (wl b).map (· + 32), by simp⟩, hJx3⟩⟩
    · obtain ⟨wo, rfl⟩ : ∃ wo : World, wo = wr := ⟨_, rfl⟩
      gi_wp2
      gi_loopw [4] (fun t wr => ∃ (pre : List M) (x : Nat), t = .int .u32 (x : Int) ∧ x < 4294967296 ∧ Hid (valsOf pre ++ (wl x).map (· + 32) = mem a b) ∧ J pre wr ∧ Hid (Tab wr))
        (fun t _ => (intOf t).toNat)
      case atStart => exact ⟨pre0, b, rfl, hb, by unfold Hid; rw [hv, mem_wl], hJ0, HT0⟩
      case round =>
        obtain ⟨pre, x, rfl, hx, Hpre, hJ, HT⟩ := hrel
        by_cases hx0 : x = 0
        · subst hx0
          have hfin : valsOf pre = mem a b := by have := Hpre.out; rwa [wl_zero, List.map_nil, List.append_nil] at this
          have Hfin := Lib.hid hfin
          clear hfin
          gi_wp2
          go_roundw
          case rel => exact ⟨pre, .inr (.inr ⟨rfl, Hfin.out⟩), hJ, HT⟩
          case measure => simp [intOf]
        · have hpos : 0 < x := by omega
          have hne : ((x : Int) != 0) = true := by rw [bne_iff_ne]; omega
          obtain ⟨hst, hc⟩ := wl_step x hpos hx
          obtain ⟨c, hcc⟩ : ∃ c, Lib.ctz 32 x = c := ⟨_, rfl⟩
          rw [hcc] at hst hc
          have hct := ctz_any x hpos hx wr HT.out
          rw [hcc] at hct
          have Hct := Lib.hid hct
          have hlen : pre.length < (mem a b).length := by
            have h1 := congrArg List.length Hpre.out
            rw [hst, List.map_cons, List.length_append, List.length_cons] at h1
            have h2 : (valsOf pre).length = pre.length := by simp [valsOf]
            omega
          obtain ⟨fn, tmps, assign, body, hy, hR⟩ := hY pre ⟨c + 32, Nat.add_lt_of_lt_sub (Nat.lt_of_lt_of_le hc (by decide))⟩ wr hJ hlen
          dsimp only at hy
          rw [show ((c + 32 : Nat) : Int) = 32 + (c : Int) from by omega] at hy
          have Hst := Lib.hid hst
          have hle := and_pred_lt x hpos
          have Hlen := Lib.hid hlen
          clear hcc hst hct hlen hx0
          gi_wp2_with (refine ⟨trivial, ?_⟩; gi_at_call 47; refine (callsIn_wide.2 Hct.out).mono ?_; rintro e w2 ⟨rfl, rfl⟩)
          refine hR.mono ?_
          rintro e w3 (⟨rfl, hJ3, hk3⟩ | ⟨rfl, hJx3⟩)
          · gi_wp2
            rw [and_pred x hpos hx]
            go_roundw
            case rel => exact ⟨pre ++ [⟨c + 32, Nat.add_lt_of_lt_sub (Nat.lt_of_lt_of_le hc (by decide))⟩], x &&& (x - 1), rfl, by omega, by unfold Hid; rw [valsOf_snoc, ← Hpre.out, Hst.out]; simp, hJ3, HT.out.below hg hk3⟩
            case measure => simp [intOf]; omega
          · gi_wp2
            refine bodyPost_ret (results_none rfl _ _ _) rfl ?_
            exact ⟨⟨_, rfl⟩, .inr ⟨pre ++ [⟨c + 32, Nat.add_lt_of_lt_sub (Nat.lt_of_lt_of_le hc (by decide))⟩], by rw [valsOf_snoc, ← Hpre.out, Hst.out]; exact ⟨(wl (x &&& (x - 1))).map (· + 32), by simp⟩, hJx3⟩⟩
    · have Hv := Lib.hid hv
      clear hv
      gi_wp2
      go_end0
      exact ⟨⟨_, rfl⟩, .inl ⟨pre0, Hv.out, hJ0⟩⟩

theorem members_any (a b : Nat) (w : World) :
    Calls Tryd.prog 37 #[.agg #[.int .u32 (a : Int), .int .u32 (b : Int)]] w fun e w' => e = .returned (.func (.func 46) #[] #[.pointer (some ⟨w.heap.size, 0, none⟩)]) ∧ w' = w.alloc (.cells #[.int .u32 (a : Int), .int .u32 (b : Int)] 25) := by
  have hmf : ∀ (fn : Fn) (first cap : Array Value) (w : World), (Instr.makeFunc fn first cap).run Tryd.prog w = .ok (.func fn first cap) w := fun _ _ _ _ => rfl
  go_enter Tryd.func37, Tryd.ntmps37
  go_wp2
  go_ret
  exact ⟨rfl, rfl⟩

/-- members hands back an iterator that tells all members, or a beginning of them. -/
theorem members_stops (n : Nat) (hn : 1 ≤ n) (Bn n₀ : Nat) (hg : 0 < n₀) (a b : Nat) (ha : a < 4294967296) (hb : b < 4294967296) (w : World) (hs : IsSet w Bn a b) (hT : Tab w) (hg2 : 0 < w.heap.size) :
    SeqStopsK Fence.wide n Tryd.prog 46 #[.pointer (some ⟨Bn, 0, none⟩)] (fun x : M => #[Value.int .i64 (x.1 : Int)]) (Below n₀) (fun ys => valsOf ys = mem a b) (fun pre => valsOf pre <+: mem a b) (mem a b).length w := fun l J Jx W hW _ _ hY h0 =>
  members1_in n hn l Bn n₀ hg a b ha hb J Jx hY W (hs.below hW) (hT.below hg2 hW) h0
end Go.Proofs.YthpinbngggcgcaaDoor
