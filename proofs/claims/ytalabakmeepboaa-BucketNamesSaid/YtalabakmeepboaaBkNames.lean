/-
  BucketNames.
-/
import Derived.Test.YtalabakmeepboaaBkLaw
namespace Go.Proofs.Ytalabakmeepboaa
open Go.RowKit

set_option maxRecDepth 100000 in
set_option maxHeartbeats 4000000 in
theorem names_any (w : World) : Calls Try.prog 4 #[] w fun x w' => x = .returned (.bool true) ∧ Below w.heap.size w w' := by
  go_enter Try.func4, Try.ntmps4
  go_wp2_with fail
  refine (few_any _).mono ?_
  rintro e w1 ⟨rfl, hb⟩
  have HB := Lib.hid hb
  clear hb
  go_wp2_with fail
  refine (new_yes w1 (by decide) (by unfold U; omega)).mono ?_
  rintro e w2 hN
  obtain ⟨k, rfl, T0⟩ := Ob.made rfl hN
  have T : Ob w.heap.size w w2 k (S.fresh 3 10 8 100) := ⟨T0.a, by have := T0.hk; have := HB.out.size; omega, HB.out.trans (T0.bel.mono HB.out.size)⟩
  have HT := Lib.hid (T.take (now := 100) (n := 10) (by unfold U; omega) (by unfold I; omega) (v := 8) (s' := ⟨3, 10, 8, 0, 100⟩) rfl rfl)
  clear hN T0 T
  go_wp2_with fail
  refine HT.out.mono ?_
  rintro e w3 ⟨rfl, T⟩
  have HT := Lib.hid (T.have_ (now := 125) (by unfold U; omega) (s' := ⟨3, 10, 8, 6, 120⟩) (v := 6) rfl rfl)
  clear T
  go_wp2_with fail
  refine HT.out.mono ?_
  rintro e w4 ⟨rfl, T⟩
  have HT := Lib.hid (T.bor (now := 125) (n := 9) (by unfold U; omega) (by unfold I; omega) (s' := ⟨3, 10, 8, -3, 120⟩) (v := 0) rfl rfl)
  clear T
  go_wp2_with fail
  refine HT.out.mono ?_
  rintro e w5 ⟨rfl, T⟩
  have HT := Lib.hid (T.have_ (now := 125) (by unfold U; omega) (s' := ⟨3, 10, 8, -3, 120⟩) (v := -3) rfl rfl)
  clear T
  go_wp2_with fail
  refine HT.out.mono ?_
  rintro e w6 ⟨rfl, T⟩
  have HT := Lib.hid (T.when_ (now := 125) (n := 1) (by unfold U; omega) (by unfold I; omega) (s' := ⟨3, 10, 8, -3, 120⟩) (v := 140) rfl rfl)
  clear T
  go_wp2_with fail
  refine HT.out.mono ?_
  rintro e w7 ⟨rfl, T⟩
  have HT := Lib.hid (T.when_ (now := 125) (n := 9) (by unfold U; omega) (by unfold I; omega) (s' := ⟨3, 10, 8, -3, 120⟩) (v := 18446744073709551615) rfl rfl)
  clear T
  go_wp2_with fail
  refine HT.out.mono ?_
  rintro e w8 ⟨rfl, T⟩
  have HT := Lib.hid (T.when_ (now := 125) (n := -3) (by unfold U; omega) (by unfold I; omega) (s' := ⟨3, 10, 8, -3, 120⟩) (v := 125) rfl rfl)
  clear T
  go_wp2_with fail
  refine HT.out.mono ?_
  rintro e w9 ⟨rfl, T⟩
  have HT := Lib.hid (T.bor (now := 125) (n := -1) (by unfold U; omega) (by unfold I; omega) (s' := ⟨3, 10, 8, -3, 120⟩) (v := 2) rfl rfl)
  clear T
  go_wp2_with fail
  refine HT.out.mono ?_
  rintro e wa ⟨rfl, T⟩
  have HT := Lib.hid (T.bor (now := 125) (n := 2147483647) (by unfold U; omega) (by unfold I; omega) (s' := ⟨3, 10, 8, -3, 120⟩) (v := 2) rfl rfl)
  clear T
  go_wp2_with fail
  refine HT.out.mono ?_
  rintro e wb ⟨rfl, T⟩
  have HT := Lib.hid (T.set_ (now := 125) (m := 3) (e := 0) (b := 8) (by unfold U; omega) (s' := ⟨3, 10, 8, -3, 120⟩) (v := 80) rfl rfl)
  clear T
  go_wp2_with fail
  refine HT.out.mono ?_
  rintro e wc ⟨rfl, T⟩
  have HT := Lib.hid T
  clear T
  go_wp2_with fail
  refine (new_no wc (m := 9) (e := 1) (b := 8) (now := 0) (by decide)).mono ?_
  rintro e wd ⟨rfl, hb⟩
  have HT := Lib.hid (HT.out.below hb)
  clear hb
  go_wp2_with fail
  refine (new_no wd (m := 1) (e := 1048577) (b := 8) (now := 0) (by decide)).mono ?_
  rintro e we ⟨rfl, hb⟩
  have HT := Lib.hid (HT.out.below hb)
  clear hb
  go_wp2_with fail
  refine (alive_any _).mono ?_
  rintro e wf ⟨rfl, hb⟩
  have HT := Lib.hid (HT.out.below hb)
  clear hb
  go_wp2_with fail
  refine (take_nil _ _).mono ?_
  rintro e wg ⟨rfl, rfl⟩
  go_wp2_with fail
  refine (bor_nil _ _ _).mono ?_
  rintro e wh ⟨rfl, rfl⟩
  go_wp2_with fail
  refine (few_any _).mono ?_
  rintro e wi ⟨rfl, hb⟩
  have HT := Lib.hid (HT.out.below hb)
  clear hb
  go_wp2_with fail
  refine (set_nil _ _ _ _ _).mono ?_
  rintro e wj ⟨rfl, hb⟩
  have HT := Lib.hid (HT.out.below hb)
  clear hb
  go_wp2_with fail
  go_ret
  exact ⟨rfl, HT.out.bel⟩
end Go.Proofs.Ytalabakmeepboaa
