/-
  List and Copy: their contracts.
-/
import Derived.Test.YtjejpgognfadoaaGreatDoorSgMem
import Derived.Test.YtjejpgognfadoaaGreatDoorCmRow
import Derived.Test.YtjejpgognfadoaaGreatDoorCmRowN
import Derived.Test.YtjejpgognfadoaaGreatDoorCmWhole
namespace Go.Proofs.YtjejpgognfadoaaGreatDoor
open Go.RowKit

section
variable {w : World} {k : Nat} {s : T}
theorem info47 : (Tryz.prog.info? 99).map (·.size) = some 64 := by kernel_rfl
theorem one_cells (s : T) : ∀ v ∈ cellsT s, v.oneCell' = true := fun v hv => by
  rcases List.mem_append.1 (show v ∈ hList s ++ cList s by simpa [cellsT] using hv) with h | h
  · obtain ⟨i, _, rfl⟩ := List.mem_map.1 h; rfl
  · obtain ⟨i, _, rfl⟩ := List.mem_map.1 h; rfl
theorem list_nil (w : World) : Calls Tryz.prog 65 #[.pointer none] w fun x w' => x = .returned (.slice none 0 0) ∧ w = w' := by
  go_enter Tryz.func65, Tryz.ntmps65
  go_wp2_with fail
  go_ret
  exact ⟨rfl, rfl⟩

/-- Rows of numbers. -/
def RN : RowK Tryz.prog Nat where
  e := 3
  s := 51
  n := 1
  bytes := 8
  zero := .int .i64 0
  enc := fun z => [.int .i64 (z : Int)]
  pos := by decide
  by_ := by decide
  len := fun _ => rfl
  one := fun x u hu => by
    simp at hu
    subst hu; rfl
  und := Tryz.underlying51
  info := by kernel_rfl
  zs := by decide

/-- While a row grows beside a table. -/
structure GrI (w W : World) (k : Nat) (s : T) (v : Value) (xs : List Nat) : Prop where
  t : Tb W k s
  hk : k < w.heap.size
  o : RN.own W w.heap.size v xs
  b : Below w.heap.size w W
theorem GrI.app {W W' : World} {v u : Value} {xs : List Nat} {x : Nat} {o : Obj} (h : GrI w W k s v xs) (hg : (W.alloc o).grownBy W' v.ownBlock) (O : RN.own W' w.heap.size u (xs ++ [x])) : GrI w W' k s u (xs ++ [x]) := by
  have hb : Below w.heap.size w W' := (h.b.alloc h.b.size _).grown hg (by have := h.b.size; simp; omega) (fun i e => (RowK.own_lt h.o e).2)
  refine ⟨h.t.same ((RowK.grown_far hg h.t.lt (fun e => by have := (RowK.own_lt h.o e).2; have := h.hk; omega))), h.hk, O, hb⟩

set_option maxRecDepth 100000 in
set_option maxHeartbeats 2000000 in
theorem list_any (H : Tb w k s) :
    Calls Tryz.prog 65 #[.pointer (some ⟨k, 0, none⟩)] w fun x w' => ∃ v, x = .returned v ∧ RN.own w' w.heap.size v (s.list 32) ∧ Below w.heap.size w w' := by
  have H0 := Lib.hid (show GrI w w k s (.slice none 0 0) (s.list 0) from ⟨H, H.lt, RowK.own_nil _ _, Below.refl _ _⟩)
  clear H
  go_enter Tryz.func65, Tryz.ntmps65
  go_wp2_with fail
  go_loopw [3, 7] (fun u i wr => ∃ n : Nat, i = .int .i64 (n : Int) ∧ n ≤ 32 ∧ GrI w wr k s u (s.list n)) (fun _ i _ => 32 - (intOf i).toNat)
  case atStart => exact ⟨0, rfl, by omega, H0.out⟩
  case round =>
    obtain ⟨n, rfl, hn, G⟩ := hrel
    by_cases hlt : n < 32
    · have b0 : (0 : Int) ≤ (n : Int) := by omega
      have b1 : (n : Int) < 32 := by omega
      have c0 := G.t.h_ hlt
      have lk := G.t.lt
      obtain ⟨A1, n1, k1, hu1⟩ := RowK.own_slice G.o
      subst hu1
      have hl1 := T.list_len s n
      have HG := Lib.hid (And.intro G hl1)
      clear G hl1
      cases hh : s.h n with
      | false =>
        have HE := Lib.hid (show s.list (n + 1) = s.list n by rw [T.list_succ, hh]; rfl)
        rw [hh] at c0
        clear hh
        go_wp2_with fail
        go_roundw
        case rel => exact ⟨n + 1, by go_num, by omega, by rw [HE.out]; exact HG.out.1⟩
        case measure => simp [intOf] <;> omega
      | true =>
        have HE := Lib.hid (show s.list (n + 1) = s.list n ++ [n] by rw [T.list_succ, hh]; rfl)
        rw [hh] at c0
        clear hh
        go_wp2_with (at_builtin; refine RowK.append (R := RN) rfl _ _ rfl w.heap.size (.slice A1 n1 k1) (s.list n) [n] rfl (RowK.own_alloc HG.out.1.o _) (some ⟨wr.heap.size, 0, none⟩) 1 1 rfl rfl (RowK.new_shows (R := RN) wr n 3) (fun e => by cases e) (by have := HG.out.2; simp; omega) (by have := HG.out.1.b.size; simp; omega) ?_; intro u1 w1 O1 hg1 ho1; have G1 := Lib.hid (HG.out.1.app hg1 O1); clear O1 hg1 ho1)
        go_roundw
        case rel => exact ⟨n + 1, by go_num, by omega, by rw [HE.out]; exact G1.out⟩
        case measure => simp [intOf] <;> omega
    · obtain rfl : n = 32 := by omega
      have HG := Lib.hid G
      clear G
      go_wp2_with fail
      go_ret
      exact ⟨_, rfl, HG.out.o, HG.out.b⟩
end
end Go.Proofs.YtjejpgognfadoaaGreatDoor
