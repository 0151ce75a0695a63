/-
  The contracts of the small functions of package fdset: fits, bit, Has: what each returns, for every input; each makes new memory at most.
-/
import Derived.Test.YthpinbngggcgcaaDoorProg
import Derived.Test.YthpinbngggcgcaaDoorPlain
import Derived.WalkKit
import Derived.WalkLawsBesides
import Derived.WalkSpells
import Derived.Deep.QuietTactic
import Derived.BigQuiet
import Derived.OwnWalk
import Derived.Lib.Hide
namespace Go.Proofs.YthpinbngggcgcaaDoor
open Go.RowKit

theorem fits_yes (n : Int) (w : World) (h0 : 0 ≤ n) (h1 : n < 64) : Calls Tryd.prog 33 #[.int .i64 n] w fun e w' => e = .returned (.bool true) ∧ w' = w := by
  go_enter Tryd.func33, Tryd.ntmps33
  go_wp2
  go_ret
  exact ⟨rfl, rfl⟩
theorem fits_no (n : Int) (w : World) (h : n < 0 ∨ 64 ≤ n) : Calls Tryd.prog 33 #[.int .i64 n] w fun e w' => e = .returned (.bool false) ∧ w' = w := by
  rcases h with h | h
  · go_enter Tryd.func33, Tryd.ntmps33
    go_wp2
    go_ret
    exact ⟨rfl, rfl⟩
  · have h0 : 0 ≤ n := by omega
    have hd : decide (n < 64) = false := by simp; omega
    go_enter Tryd.func33, Tryd.ntmps33
    go_wp2
    go_ret
    exact ⟨rfl, rfl⟩
theorem ret_int {k : IntKind} {a b : Int} (h : a = b) : Ending.returned (.int k a) = .returned (.int k b) := by rw [h]
theorem ret_bool {a b : Bool} (h : a = b) : Ending.returned (.bool a) = .returned (.bool b) := by rw [h]
theorem bit_eq (n : Nat) : (2 : Int) ^ (n % 32) % 4294967296 = (bitN n : Int) := by
  have h := bitN_lt n
  have e : ((bitN n : Nat) : Int) = (2 : Int) ^ (n % 32) := by unfold bitN; simp
  rw [← e]
  exact Int.emod_eq_of_lt (by omega) (by omega)
theorem bit_any (n : Nat) (w : World) (h1 : n < 64) : Calls Tryd.prog 45 #[.int .i64 (n : Int)] w fun e w' => e = .returned (.int .u32 (bitN n : Int)) ∧ w' = w := by
  go_enter Tryd.func45, Tryd.ntmps45
  go_wp2
  go_ret
  exact ⟨ret_int (bit_eq n), rfl⟩

/-- The word in which a number's bit lies. -/
def word (a b n : Nat) : Nat := if n < 32 then a else b
theorem has_word (a b n : Nat) (hn : n < 64) : hasB a b n = (word a b n).testBit (n % 32) := by
  unfold hasB word
  split
  · rw [Nat.mod_eq_of_lt (by omega)]
  · rw [show n % 32 = n - 32 from by omega]
theorem cell_word (a b n : Nat) (hn : n < 64) (w : World) : (w.alloc (.cells #[.int .u32 (a : Int), .int .u32 (b : Int)] 25)).cell? ⟨w.heap.size, n / 32, none⟩ = some (.int .u32 (word a b n : Int)) := by
  unfold word
  split
  · rw [show n / 32 = 0 from by omega, World.cell?_alloc_at _ _ _ _ rfl]; rfl
  · rw [show n / 32 = 1 from by omega, World.cell?_alloc_at _ _ _ _ rfl]; rfl

theorem word_lt (a b n : Nat) (ha : a < 4294967296) (hb : b < 4294967296) : word a b n < 4294967296 := by unfold word; split <;> assumption
theorem has_val (a b n : Nat) (ha : a < 4294967296) (hb : b < 4294967296) (h1 : n < 64) : (bits BinOp.and IntKind.u32 (word a b n : Int) (bitN n : Int) != 0) = hasB a b n := by
  rw [u32_and_nat _ _ (word_lt a b n ha hb) (bitN_lt n), has_word a b n h1]
  have h := and_bitN (word a b n) n
  rw [Bool.eq_iff_iff]
  simp only [bne_iff_ne, ne_eq]
  rw [show (((word a b n &&& bitN n : Nat) : Int) = 0) = (word a b n &&& bitN n = 0) from by simp, h]
  simp
theorem has_in (a b : Nat) (n : Nat) (w : World) (ha : a < 4294967296) (hb : b < 4294967296) (h1 : n < 64) :
    Calls Tryd.prog 32 #[.agg #[.int .u32 (a : Int), .int .u32 (b : Int)], .int .i64 (n : Int)] w fun e w' => e = .returned (.bool (hasB a b n)) ∧ Below w.heap.size w w' := by
  have hcw := cell_word a b n h1 w
  have hq : (n : Int) / 32 < 2 := by omega
  go_enter Tryd.func32, Tryd.ntmps32
  go_wp2_with fail
  go_quiet ((first | (go_at_call 33; exact Calls.quiet_of_same (fits_yes _ _ (by omega) (by omega))) | (go_at_call 45; exact Calls.quiet_of_same (bit_any _ _ h1))))
  go_wp2
  go_ret
  exact ⟨ret_bool (has_val a b n ha hb h1), below_drewN ((Below.refl _ _).alloc (Nat.le_refl _) _) _⟩

theorem has_out (a b : Nat) (n : Int) (w : World) (h : n < 0 ∨ 64 ≤ n) :
    Calls Tryd.prog 32 #[.agg #[.int .u32 (a : Int), .int .u32 (b : Int)], .int .i64 n] w fun e w' => e = .returned (.bool false) ∧ Below w.heap.size w w' := by
  go_enter Tryd.func32, Tryd.ntmps32
  go_wp2_with fail
  go_quiet ((go_at_call 33; exact Calls.quiet_of_same (fits_no _ _ h)))
  go_wp2
  go_ret
  exact ⟨rfl, below_drewN ((Below.refl _ _).alloc (Nat.le_refl _) _) _⟩
end Go.Proofs.YthpinbngggcgcaaDoor
