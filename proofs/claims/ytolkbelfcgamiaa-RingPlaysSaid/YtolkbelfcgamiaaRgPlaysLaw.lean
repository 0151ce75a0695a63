/-
  RingPlays: where it doesn't play: too many calls; a capacity that both refuse.
-/
import Derived.Test.YtolkbelfcgamiaaRgPl2
namespace Go.Proofs.Ytolkbelfcgamiaa
open Go.RowKit Go.Shelf Go.Maps Go.ChangeMaps

set_option maxRecDepth 100000 in
set_option maxHeartbeats 2000000 in
theorem plays_great (w : World) (k : Int) (A : Option Addr) (c : Nat) (l : List OpD)
    (hgr : Calls Try.prog 9 #[.slice A l.length c] w fun e w' => e = .returned (.bool true) ∧ w = w') :
    Calls Try.prog 3 #[.int .i64 k, .slice A l.length c] w fun e w' => e = .returned (.bool true) ∧ Below w.heap.size w w' := by
  have HG := Lib.hid hgr
  clear hgr
  go_enter Try.func3, Try.ntmps3
  go_wp2_with (go_at_call 9; refine HG.out.mono ?_; rintro e wx ⟨rfl, rfl⟩)
  go_ret
  exact ⟨rfl, Below.refl _ _⟩

set_option maxRecDepth 100000 in
set_option maxHeartbeats 2000000 in
theorem plays_no (w : World) (k : Int) (A : Option Addr) (c : Nat) (l : List OpD) (hk : k < 0 ∨ 65536 < k) (hk2 : -9223372036854775808 ≤ k ∧ k ≤ 9223372036854775807)
    (hgr : Calls Try.prog 9 #[.slice A l.length c] w fun e w' => e = .returned (.bool false) ∧ w = w') :
    Calls Try.prog 3 #[.int .i64 k, .slice A l.length c] w fun e w' => e = .returned (.bool true) ∧ Below w.heap.size w w' := by
  have HG := Lib.hid hgr
  have HK := Lib.hid (And.intro hk hk2)
  clear hgr hk hk2
  go_enter Try.func3, Try.ntmps3
  go_wp2_with (go_at_call 9; refine HG.out.mono ?_; rintro e wx ⟨rfl, rfl⟩)
  refine (new_no _ k HK.out.1 HK.out.2).mono ?_
  rintro e w1 ⟨rfl, rfl⟩
  go_wp2_with fail
  refine (rnew_no _ k HK.out.1 HK.out.2).mono ?_
  rintro e w2 ⟨rfl, hb2⟩
  have HB2 := Lib.hid hb2
  clear hb2
  go_wp2_with fail
  all_goals
    go_ret
    exact ⟨rfl, HB2.out.alloc HB2.out.size _⟩
end Go.Proofs.Ytolkbelfcgamiaa
