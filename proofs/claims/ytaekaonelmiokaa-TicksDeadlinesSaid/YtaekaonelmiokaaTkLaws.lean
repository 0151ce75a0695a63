/-
  The walks of TicksDeadlines, TicksNumbers, TicksNames, TicksBack: each returns true for every input, and turns nothing.
-/
import Derived.Test.YtaekaonelmiokaaTkFrom
import Derived.Test.YtaekaonelmiokaaTkLeast
namespace Go.Proofs.Ytaekaonelmiokaa
open Go.RowKit

set_option maxRecDepth 100000 in
set_option maxHeartbeats 2000000 in
theorem deadlines_any (now after : Int) (zs : List Int) (v : Value) (busy : Bool) (w : World) (hn : U now) (ha : U after) (h : IsU w v zs) :
    Calls Try.prog 3 #[.int .u64 now, .int .u64 after, v, .bool busy] w fun e w' => e = .returned (.bool true) ∧ w = w' := by
  have L1 := fun w (h : IsU w v zs) => least_any zs v w h
  have L2 := fun w (h : IsU w v zs) => rleast_any zs v w h
  have HL := Lib.hid (And.intro L1 L2)
  have H := Lib.hid h
  obtain ⟨a, cap, rfl, hlc, hm, hu, _⟩ := h
  unfold maxLen at hm
  clear L1 L2 hu
  obtain ⟨n, hz⟩ : ∃ n, zs.length = n := ⟨_, rfl⟩
  rw [hz] at hlc HL H ⊢
  clear hz
  by_cases hl : 100 < n
  · go_enter Try.func3, Try.ntmps3
    go_wp2_with fail
    go_ret
    exact ⟨rfl, rfl⟩
  · have D1 := Lib.hid (dl_any now after w hn ha)
    have D2 := Lib.hid (rdl_any now after w hn ha)
    have F1 := Lib.hid (lf_any now after w hn ha)
    have F2 := Lib.hid (rlf_any now after w hn ha)
    have W1 := Lib.hid (wt_any now busy w hn)
    have W2 := Lib.hid (rwt_any now busy w hn)
    go_enter Try.func3, Try.ntmps3
    go_wp2_with (first
      | (go_at_call 9; refine D1.out.mono ?_; rintro e w' ⟨rfl, rfl⟩)
      | (go_at_call 10; refine D2.out.mono ?_; rintro e w' ⟨rfl, rfl⟩)
      | (go_at_call 11; refine F1.out.mono ?_; rintro e w' ⟨rfl, rfl⟩)
      | (go_at_call 12; refine F2.out.mono ?_; rintro e w' ⟨rfl, rfl⟩)
      | (go_at_call 15; refine W1.out.mono ?_; rintro e w' ⟨rfl, rfl⟩)
      | (go_at_call 16; refine W2.out.mono ?_; rintro e w' ⟨rfl, rfl⟩)
      | (go_at_call 13; refine (HL.out.1 _ H.out).mono ?_; rintro e w' ⟨rfl, rfl⟩)
      | (go_at_call 14; refine (HL.out.2 _ H.out).mono ?_; rintro e w' ⟨rfl, rfl⟩))
    go_ret
    exact ⟨rfl, rfl⟩

set_option maxRecDepth 100000 in
set_option maxHeartbeats 4000000 in
theorem numbers_any (x c r s n : Int) (w : World) (hx : U x) (hc : I c) (hr : I r) (hs : I s) (hn : I n) :
    Calls Try.prog 4 #[.int .u64 x, .int .i64 c, .int .i64 r, .int .i64 s, .int .i64 n] w fun e w' => e = .returned (.bool true) ∧ w = w' := by
  have P1 := Lib.hid (pair_any x s w hx hs)
  have P2 := Lib.hid (rpair_any x s w hx hs)
  have F1 := Lib.hid (fromPair_any c r s w hc hr hs)
  have F2 := Lib.hid (rfromPair_any c r s w hc hr hs)
  have S1 := Lib.hid (single_any x w hx)
  have S2 := Lib.hid (rsingle_any x w hx)
  have G1 := Lib.hid (fromSingle_any n w hn)
  have G2 := Lib.hid (rfromSingle_any n w hn)
  go_enter Try.func4, Try.ntmps4
  go_wp2_with (first
    | (go_at_call 17; refine P1.out.mono ?_; rintro e w' ⟨rfl, rfl⟩)
    | (go_at_call 18; refine P2.out.mono ?_; rintro e w' ⟨rfl, rfl⟩)
    | (go_at_call 19; refine F1.out.mono ?_; rintro e w' ⟨rfl, rfl⟩)
    | (go_at_call 20; refine F2.out.mono ?_; rintro e w' ⟨rfl, rfl⟩)
    | (go_at_call 21; refine S1.out.mono ?_; rintro e w' ⟨rfl, rfl⟩)
    | (go_at_call 22; refine S2.out.mono ?_; rintro e w' ⟨rfl, rfl⟩)
    | (go_at_call 23; refine G1.out.mono ?_; rintro e w' ⟨rfl, rfl⟩)
    | (go_at_call 24; refine G2.out.mono ?_; rintro e w' ⟨rfl, rfl⟩))
  go_ret
  exact ⟨rfl, rfl⟩
end Go.Proofs.Ytaekaonelmiokaa
