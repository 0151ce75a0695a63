/-
  The contracts of package fdset's Len and Top: how many members a set has; its greatest one, or -1.
-/
import Derived.Test.YtbbgnpnopodppaaDoorSeBase
import Derived.Test.YtbbgnpnopodppaaDoorShelf
namespace Go.Proofs.YtbbgnpnopodppaaDoor.Fs
open Go.RowKit

theorem idx0 (x y : Value) : ∀ w, (Instr.index 28 (.agg #[x, y]) (.int .i64 0)).run Tryd.prog w = .ok x w := fun _ => by kernel_rfl
theorem idx1 (x y : Value) : ∀ w, (Instr.index 28 (.agg #[x, y]) (.int .i64 1)).run Tryd.prog w = .ok y w := fun _ => by kernel_rfl
theorem ones_le (x : Nat) : ones x ≤ 32 := popAux_le 32 x

set_option maxRecDepth 100000 in
set_option maxHeartbeats 2000000 in
theorem len_any (a b : Nat) (w : World) (ha : a < 4294967296) (hb : b < 4294967296) :
    Calls Tryd.prog 10 #[.agg #[.int .u32 (a : Int), .int .u32 (b : Int)]] w fun e w' => e = .returned (.int .i64 (((memI a b).length : Nat) : Int)) ∧ Below w.heap.size w w' := by
  rw [length_memI_ones]
  have j0 := idx0 (.int .u32 (a : Int)) (.int .u32 (b : Int))
  have j1 := idx1 (.int .u32 (a : Int)) (.int .u32 (b : Int))
  have la := ones_le a
  have lb := ones_le b
  go_enter Tryd.func10, Tryd.ntmps10
  go_wp2_with fail
  go_loopw [3, 7] (fun m i wr => ((i = .int .i64 0 ∧ m = .int .i64 0) ∨ (i = .int .i64 1 ∧ m = .int .i64 (ones a : Int)) ∨ (i = .int .i64 2 ∧ m = .int .i64 ((ones a + ones b : Nat) : Int))) ∧ Below w.heap.size w wr)
    (fun _ i _ => 2 - (intOf i).toNat)
  case atStart => exact ⟨.inl ⟨rfl, rfl⟩, (Below.refl _ _).alloc (Nat.le_refl _) _⟩
  case round =>
    obtain ⟨hs, hbw⟩ := hrel
    rcases hs with ⟨rfl, rfl⟩ | ⟨rfl, rfl⟩ | ⟨rfl, rfl⟩
    · go_wp2_with (go_at_call 26; refine (ones_any a ha _).mono ?_; rintro e w2 ⟨rfl, hb2⟩)
      go_roundw
      case rel => exact ⟨.inr (.inl ⟨rfl, by first | rfl | go_num⟩), below_endL hbw hb2⟩
      case measure => simp [intOf]
    · go_wp2_with (go_at_call 26; refine (ones_any b hb _).mono ?_; rintro e w2 ⟨rfl, hb2⟩)
      go_roundw
      case rel => exact ⟨.inr (.inr ⟨rfl, by go_num⟩), below_endL hbw hb2⟩
      case measure => simp [intOf]
    · go_wp2
      go_ret
      exact ⟨rfl, hbw⟩

set_option maxRecDepth 100000 in
set_option maxHeartbeats 2000000 in
theorem top_any (a b : Nat) (w : World) (ha : a < 4294967296) (hb : b < 4294967296) :
    Calls Tryd.prog 27 #[.agg #[.int .u32 (a : Int), .int .u32 (b : Int)]] w fun e w' => e = .returned (.int .i64 (topI a b)) ∧ Below w.heap.size w w' := by
  have j0 := idx0 (.int .u32 (a : Int)) (.int .u32 (b : Int))
  have j1 := idx1 (.int .u32 (a : Int)) (.int .u32 (b : Int))
  have la := bitLen_le32 a ha
  have lb := bitLen_le32 b hb
  obtain ⟨t1, ht1⟩ : ∃ t1 : Int, t1 = (if a = 0 then -1 else (Lib.bitLen a : Int) - 1) := ⟨_, rfl⟩
  have hT : topI a b = if b = 0 then t1 else 32 + (Lib.bitLen b : Int) - 1 := by rw [ht1]; rfl
  have HT := Lib.hid hT
  have Ht1 := Lib.hid ht1
  clear hT ht1
  go_enter Tryd.func27, Tryd.ntmps27
  go_wp2_with fail
  go_loopw [3, 7] (fun m i wr => ((i = .int .i64 0 ∧ m = .int .i64 (-1)) ∨ (i = .int .i64 1 ∧ m = .int .i64 t1) ∨ (i = .int .i64 2 ∧ m = .int .i64 (topI a b))) ∧ Below w.heap.size w wr)
    (fun _ i _ => 2 - (intOf i).toNat)
  case atStart => exact ⟨.inl ⟨rfl, rfl⟩, (Below.refl _ _).alloc (Nat.le_refl _) _⟩
  case round =>
    obtain ⟨hs, hbw⟩ := hrel
    rcases hs with ⟨rfl, rfl⟩ | ⟨rfl, rfl⟩ | ⟨rfl, rfl⟩
    · by_cases h0 : a = 0
      · have hb0 : ((a : Int) != 0) = false := by simp [h0]
        have H0 := Lib.hid h0
        clear h0
        go_wp2
        go_roundw
        case rel => exact ⟨.inr (.inl ⟨rfl, by rw [Ht1.out, if_pos H0.out]⟩), hbw⟩
        case measure => simp [intOf]
      · have hb0 : ((a : Int) != 0) = true := by rw [bne_iff_ne]; omega
        go_wp2_with (go_at_call 42; refine (Tryd.bits_Len32 (a : Int) _ (by omega) (by omega)).mono ?_; rintro e w2 ⟨rfl, rfl⟩)
        go_roundw
        case rel => exact ⟨.inr (.inl ⟨rfl, by rw [Ht1.out, if_neg h0]⟩), hbw⟩
        case measure => simp [intOf]
    · by_cases h0 : b = 0
      · have hb0 : ((b : Int) != 0) = false := by simp [h0]
        have H0 := Lib.hid h0
        clear h0
        go_wp2
        go_roundw
        case rel => exact ⟨.inr (.inr ⟨rfl, by rw [HT.out, if_pos H0.out]⟩), hbw⟩
        case measure => simp [intOf]
      · have hb0 : ((b : Int) != 0) = true := by rw [bne_iff_ne]; omega
        go_wp2_with (go_at_call 42; refine (Tryd.bits_Len32 (b : Int) _ (by omega) (by omega)).mono ?_; rintro e w2 ⟨rfl, rfl⟩)
        go_roundw
        case rel => exact ⟨.inr (.inr ⟨rfl, by rw [HT.out, if_neg h0]⟩), hbw⟩
        case measure => simp [intOf]
    · go_wp2
      go_ret
      exact ⟨rfl, hbw⟩
end Go.Proofs.YtbbgnpnopodppaaDoor.Fs
