/-
  The contracts of math/bits' TrailingZeros32, OnesCount32 and Len32 as package fdset calls them: the lowest bit, how many bits, the highest bit.
-/
import Derived.Test.YthpinbngggcgcaaDoorProg
import Derived.Test.YthpinbngggcgcaaDoorCount
import Derived.WalkKit
import Derived.WalkLawsBesides
import Derived.WalkSpells
import Derived.Deep.QuietTactic
import Derived.BigQuiet
import Derived.OwnWalk
import Derived.Lib.Hide
import Derived.Lib.BitFns
import Derived.Lib.Tables
import Derived.Shelf.Spec.TrailingZeros
import Derived.RegionTactic
import Derived.Outline
namespace Go.Proofs.YthpinbngggcgcaaDoor
open Go.RowKit

set_option maxHeartbeats 1000000 in
theorem tz_core (x k idx : Nat) (w : World) (hx0 : ((x : Int) == 0) = false)
    (key : bits BinOp.and IntKind.u32 (x : Int) (-(x : Int) % 4294967296) * 125613361 % 4294967296 / 134217728 = (idx : Int))
    (hi : idx < 32) (hk : k < 32) (hcell : w.cell? ⟨0, idx, none⟩ = some (.int .u8 k)) :
    Calls Tryd.prog 47 #[.int .u32 x] w fun e w' => e = .returned (.int .i64 k) ∧ w' = w := by
  go_enter Tryd.func47, Tryd.ntmps47
  go_wp2_with (simp only [key])
  go_ret
  exact ⟨rfl, rfl⟩
theorem ctz_any (x : Nat) (hx0 : 0 < x) (hx : x < 4294967296) (w : World) (hT : TabAt 0 Lib.deBruijn32tab w) :
    Calls Tryd.prog 47 #[.int .u32 (x : Int)] w fun e w' => e = .returned (.int .i64 (Lib.ctz 32 x)) ∧ w' = w := by
  obtain ⟨hlow, hk⟩ := Lib.lowest_bit 32 x (by omega) hx
  obtain ⟨hi, htab⟩ := Lib.deBruijn32_at _ hk
  have hcell := hT _ hi
  rw [htab] at hcell
  exact tz_core x _ _ w (by simp; omega) (tz32_key x _ hx (by omega) hlow) hi hk hcell

@[local go_sem high] theorem fold_pop : (⟨((([0, 1, 1, 2, 1, 2, 2, 3, 1, 2, 2, 3, 2, 3, 3, 4, 1, 2, 2, 3, 2, 3, 3, 4, 2, 3, 3, 4, 3, 4, 4, 5, 1, 2, 2, 3, 2, 3, 3, 4, 2, 3, 3, 4, 3, 4, 4, 5, 2, 3, 3, 4, 3, 4, 4, 5, 3, 4, 4, 5, 4, 5, 5, 6] : List UInt8).append [1, 2, 2, 3, 2, 3, 3, 4, 2, 3, 3, 4, 3, 4, 4, 5, 2, 3, 3, 4, 3, 4, 4, 5, 3, 4, 4, 5, 4, 5, 5, 6, 2, 3, 3, 4, 3, 4, 4, 5, 3, 4, 4, 5, 4, 5, 5, 6, 3, 4, 4, 5, 4, 5, 5, 6, 4, 5, 5, 6, 5, 6, 6, 7]).append ([1, 2, 2, 3, 2, 3, 3, 4, 2, 3, 3, 4, 3, 4, 4, 5, 2, 3, 3, 4, 3, 4, 4, 5, 3, 4, 4, 5, 4, 5, 5, 6, 2, 3, 3, 4, 3, 4, 4, 5, 3, 4, 4, 5, 4, 5, 5, 6, 3, 4, 4, 5, 4, 5, 5, 6, 4, 5, 5, 6, 5, 6, 6, 7].append [2, 3, 3, 4, 3, 4, 4, 5, 3, 4, 4, 5, 4, 5, 5, 6, 3, 4, 4, 5, 4, 5, 5, 6, 4, 5, 5, 6, 5, 6, 6, 7, 3, 4, 4, 5, 4, 5, 5, 6, 4, 5, 5, 6, 5, 6, 6, 7, 4, 5, 5, 6, 5, 6, 6, 7, 5, 6, 6, 7, 6, 7, 7, 8])).toArray⟩ : ByteArray) = Lib.pop8tab := by kernel_rfl

theorem pop_core (x : Nat) (hx : x < 4294967296) (p0 p1 p2 p3 : Nat) (h0 : p0 ≤ 8) (h1 : p1 ≤ 8) (h2 : p2 ≤ 8) (h3 : p3 ≤ 8) (w : World)
    (a0 : (0 : Int) ≤ (x : Int) / 16777216) (b0 : (x : Int) / 16777216 ≤ 255) (a1 : 0 ≤ bits BinOp.and IntKind.u32 ((x : Int) / 65536) 255) (b1 : bits BinOp.and IntKind.u32 ((x : Int) / 65536) 255 ≤ 255)
    (a2 : 0 ≤ bits BinOp.and IntKind.u32 ((x : Int) / 256) 255) (b2 : bits BinOp.and IntKind.u32 ((x : Int) / 256) 255 ≤ 255) (a3 : 0 ≤ bits BinOp.and IntKind.u32 (x : Int) 255) (b3 : bits BinOp.and IntKind.u32 (x : Int) 255 ≤ 255)
    (e0 : Lib.pop8 ((x : Int) / 16777216) = (p0 : Int)) (e1 : Lib.pop8 (bits BinOp.and IntKind.u32 ((x : Int) / 65536) 255) = (p1 : Int)) (e2 : Lib.pop8 (bits BinOp.and IntKind.u32 ((x : Int) / 256) 255) = (p2 : Int)) (e3 : Lib.pop8 (bits BinOp.and IntKind.u32 (x : Int) 255) = (p3 : Int)) :
    Calls Tryd.prog 39 #[.int .u32 (x : Int)] w fun e w' => e = .returned (.int .i64 ((p0 + p1 + p2 + p3 : Nat) : Int)) ∧ Below w.heap.size w w' := by
  go_enter Tryd.func39, Tryd.ntmps39
  go_wp2
  go_quiet (fail)
  go_wp2
  go_ret
  exact ⟨rfl, below_drewN (Below.refl _ _) _⟩

theorem and255 (y : Nat) (hy : y < 4294967296) : bits BinOp.and IntKind.u32 (y : Int) 255 = ((y % 256 : Nat) : Int) := by
  rw [show (255 : Int) = ((255 : Nat) : Int) from rfl, u32_and_nat y 255 hy (by omega), nat_mask8]
theorem ones_any (x : Nat) (hx : x < 4294967296) (w : World) :
    Calls Tryd.prog 39 #[.int .u32 (x : Int)] w fun e w' => e = .returned (.int .i64 (ones x : Int)) ∧ Below w.heap.size w w' := by
  have d0 : (x : Int) / 16777216 = ((x / 16777216 : Nat) : Int) := by omega
  have d1 : (x : Int) / 65536 = ((x / 65536 : Nat) : Int) := by omega
  have d2 : (x : Int) / 256 = ((x / 256 : Nat) : Int) := by omega
  have f1 := and255 (x / 65536) (by omega)
  have f2 := and255 (x / 256) (by omega)
  have f3 := and255 x hx
  have h := pop_core x hx (Lib.popAux 8 (x / 16777216)) (Lib.popAux 8 (x / 65536 % 256)) (Lib.popAux 8 (x / 256 % 256)) (Lib.popAux 8 (x % 256)) (popAux_le _ _) (popAux_le _ _) (popAux_le _ _) (popAux_le _ _) w
    (by omega) (by omega) (by rw [d1, f1]; omega) (by rw [d1, f1]; omega) (by rw [d2, f2]; omega) (by rw [d2, f2]; omega) (by rw [f3]; omega) (by rw [f3]; omega)
    (by rw [d0]; exact pop8_nat _ (by omega)) (by rw [d1, f1]; exact pop8_nat _ (by omega)) (by rw [d2, f2]; exact pop8_nat _ (by omega)) (by rw [f3]; exact pop8_nat _ (by omega))
  have e := ones_bytes x hx
  rw [ones_byte _ (by omega), ones_byte _ (by omega), ones_byte _ (by omega), ones_byte _ (by omega)] at e
  rwa [e] at h
end Go.Proofs.YthpinbngggcgcaaDoor
