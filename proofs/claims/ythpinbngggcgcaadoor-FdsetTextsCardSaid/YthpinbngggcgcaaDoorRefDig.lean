/-
  The contract of the reference's digits.
-/
import Derived.Test.YthpinbngggcgcaaDoorRun
import Derived.Test.YthpinbngggcgcaaDoorText
import Derived.IntWalk
namespace Go.Proofs.YthpinbngggcgcaaDoor
open Go.RowKit

theorem conv_dig (m : Nat) (hm : m < 10) (z : Int) (hz : z = 48 + (m : Int)) (w : World) : Sem.run Tryd.prog (convert 65 9 (.slice (some ⟨w.heap.size, 0, none⟩) 1 1)) (w.alloc (.cells #[.int .u8 z] 5)) = .ok (.string ⟨#[UInt8.ofNat (48 + m)]⟩) (w.alloc (.cells #[.int .u8 z] 5)) := by
  refine run_convert_bytes_back (P := Tryd.prog) _ 65 9 5 ⟨w.heap.size, 0, none⟩ 1 [UInt8.ofNat (48 + m)] Tryd.underlying65 Tryd.underlying5 Tryd.underlying9 fun j hj => ?_
  have h0 : j = 0 := by simp at hj; omega
  subst h0 hz
  show (w.alloc _).cell? ⟨w.heap.size, 0, none⟩ = _
  rw [World.cell?_alloc_at _ _ _ _ rfl]
  simp
  omega
theorem app2 (a b : UInt8) : (⟨#[a]⟩ : ByteArray) ++ ⟨#[b]⟩ = ⟨#[a, b]⟩ := by
  first
    | rfl
    | (apply ByteArray.ext; simp)
set_option maxRecDepth 100000 in
set_option maxHeartbeats 1000000 in
theorem digits_any (n : Nat) (hn : n < 64) (w : World) : Calls Tryd.prog 44 #[.int .i64 (n : Int)] w fun e w' => e = .returned (.string ⟨(dig2 n).toArray⟩) ∧ Below w.heap.size w w' := by
  have e1 : (n : Int).tmod 10 = ((n % 10 : Nat) : Int) := by rw [Int.tmod_eq_emod_of_nonneg (by omega)]; omega
  have e2 : (n : Int).tdiv 10 = ((n / 10 : Nat) : Int) := by rw [Int.tdiv_eq_ediv_of_nonneg (by omega)]; omega
  have e3 : IntKind.i64.wrap (48 + ((n % 10 : Nat) : Int)) = ((48 + n % 10 : Nat) : Int) := by rw [IntWalk.i64_in _ (by omega)]; omega
  have e4 : IntKind.i64.wrap (48 + ((n / 10 : Nat) : Int)) = ((48 + n / 10 : Nat) : Int) := by rw [IntWalk.i64_in _ (by omega)]; omega
  have c1 := conv_dig (n % 10) (by omega) (48 + (n : Int) % 10) (by omega) w
  have bx : Below w.heap.size w (w.alloc (.cells #[.int .u8 (48 + (n : Int) % 10)] 5)) := (Below.refl _ _).alloc (Nat.le_refl _) _
  obtain ⟨x, hx⟩ : ∃ x : UInt8, UInt8.ofNat (48 + n % 10) = x := ⟨_, rfl⟩
  obtain ⟨y, hy⟩ : ∃ y : UInt8, UInt8.ofNat (48 + n / 10) = y := ⟨_, rfl⟩
  rw [hx] at c1
  by_cases h : n < 10
  · have h9 : ¬ (9 : Int) < (n : Int) := by omega
    have hd : dig2 n = [x] := by unfold dig2; rw [if_pos h, ← hx, Nat.mod_eq_of_lt h]
    have HX := Lib.hid (And.intro bx hd)
    clear bx hd hx hy
    go_enter Tryd.func44, Tryd.ntmps44
    go_wp2_with fail
    go_ret
    exact ⟨by rw [HX.out.2]; rfl, HX.out.1⟩
  · have h9 : (9 : Int) < (n : Int) := by omega
    have c2 := conv_dig (n / 10) (by omega) (48 + (n : Int) / 10) (by omega) (w.alloc (.cells #[.int .u8 (48 + (n : Int) % 10)] 5))
    simp only [World.size_alloc] at c2
    have hd : dig2 n = [y, x] := by unfold dig2; rw [if_neg h, hx, hy]
    rw [hy] at c2
    have HX := Lib.hid (And.intro (bx.alloc (by simp) (.cells #[.int .u8 (48 + (n : Int) / 10)] 5)) hd)
    clear bx hd hx hy
    go_enter Tryd.func44, Tryd.ntmps44
    go_wp2_with fail
    go_ret
    exact ⟨by rw [HX.out.2]; exact congrArg (fun b => Ending.returned (Value.string b)) (app2 y x), HX.out.1⟩
end Go.Proofs.YthpinbngggcgcaaDoor
