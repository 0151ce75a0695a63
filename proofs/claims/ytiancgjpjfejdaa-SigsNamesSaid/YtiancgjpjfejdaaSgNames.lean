/-
  SigsNames.
-/
import Derived.Test.YtiancgjpjfejdaaSgLaw
namespace Go.Proofs.Ytiancgjpjfejdaa
open Go.RowKit

def namesT : T := (T.new.handle 2 true).rise 2
theorem namesT_le : namesT.le 2147483646 := fun i => Nat.le_trans (T.le_rise (T.le_handle (T.le_new 0) 2 true) 2 i) (by omega)

set_option maxRecDepth 100000 in
set_option maxHeartbeats 4000000 in
theorem names_any (w : World) : Calls Try.prog 4 #[] w fun x w' => x = .returned (.bool true) ∧ Below w.heap.size w w' := by
  have g2 : code 2 = 0 := by decide
  have g31 : code 31 = 0 := by decide
  have g0 : code 0 = 100 := by decide
  have g32 : code 32 = 100 := by decide
  have G := Lib.hid (And.intro g2 (And.intro g31 (And.intro g0 g32)))
  clear g2 g31 g0 g32
  go_enter Try.func4, Try.ntmps4
  go_wp2_with fail
  refine (Ob.new (Nat.le_refl _) (Below.refl _ w) (Nat.le_refl _)).mono ?_
  rintro e w1 ⟨rfl, O⟩
  have HT := Lib.hid (O.handle 2 true)
  clear O
  go_wp2_with fail
  refine HT.out.mono ?_
  rintro e w2 ⟨rfl, O⟩
  rw [G.out.1]
  have HT := Lib.hid (O.raise 2 (T.le_handle (T.le_new _) 2 true))
  clear O
  go_wp2_with fail
  refine HT.out.mono ?_
  rintro e w3 ⟨rfl, O⟩
  rw [G.out.1]
  have HT := Lib.hid (Ob.handle (s := namesT) O 2 false)
  clear O
  go_wp2_with fail
  refine HT.out.mono ?_
  rintro e w4 ⟨rfl, O⟩
  rw [G.out.1]
  have HT := Lib.hid O.take
  clear O
  go_wp2_with fail
  refine HT.out.mono ?_
  rintro e w5 ⟨v, rfl, hrow, O⟩
  rw [show (namesT.handle 2 false).pend 32 = [] from by decide] at hrow
  obtain ⟨A, c, rfl, _, _, _⟩ := RowK.own_shows hrow
  have HT := Lib.hid (O.handle 0 true)
  clear O hrow
  go_wp2_with fail
  refine HT.out.mono ?_
  rintro e w6 ⟨rfl, O⟩
  rw [G.out.2.2.1]
  have HT := Lib.hid (O.raise 32 (fun i => Nat.le_trans (T.le_handle (T.le_idle _ 0) 0 true i) (by omega)))
  clear O
  go_wp2_with fail
  refine HT.out.mono ?_
  rintro e w7 ⟨rfl, O⟩
  rw [G.out.2.2.2]
  have O2 : Ob w.heap.size w (w7.alloc (.cells (cellsT T.new) 47)) w7.heap.size T.new := ⟨Tb.fresh w7, O.size, O.bel.alloc O.size _⟩
  have HT := Lib.hid (O2.handle 31 true)
  clear O O2
  go_wp2_with fail
  refine HT.out.mono ?_
  rintro e w8 ⟨rfl, O⟩
  rw [G.out.2.1]
  have HO := Lib.hid O
  clear O
  go_wp2_with fail
  refine (alive_any w8).mono ?_
  rintro e w9 ⟨rfl, hb⟩
  have HO := Lib.hid (HO.out.below hb)
  have HT := Lib.hid (handled_any HO.out.a 31)
  rw [show (T.new.handle 31 true).has 31 = true from by decide] at HT
  clear hb
  go_wp2_with fail
  refine HT.out.mono ?_
  rintro e w10 ⟨rfl, rfl⟩
  go_wp2_with fail
  refine (handle_nil _ _ _).mono ?_
  rintro e w11 ⟨rfl, rfl⟩
  go_wp2_with fail
  refine (raise_nil _ _).mono ?_
  rintro e w12 ⟨rfl, rfl⟩
  go_wp2_with fail
  refine (handled_nil _ _).mono ?_
  rintro e w13 ⟨rfl, rfl⟩
  go_wp2_with fail
  refine (pending_nil _).mono ?_
  rintro e w14 ⟨rfl, rfl⟩
  go_wp2_with fail
  refine (take_nil _).mono ?_
  rintro e w15 ⟨rfl, rfl⟩
  go_wp2_with fail
  refine (list_nil _).mono ?_
  rintro e w16 ⟨rfl, rfl⟩
  go_wp2_with fail
  refine (copy_nil _).mono ?_
  rintro e w17 ⟨rfl, rfl⟩
  go_wp2_with fail
  go_ret
  exact ⟨rfl, HO.out.bel⟩
end Go.Proofs.Ytiancgjpjfejdaa
