/-
  The walk of FlagAsks, with the contracts of May and Ready beside the document's own: each answers what its function says, and nothing is turned.
-/
import Derived.Test.YtbpgoopmfofcnaaProg
import Derived.Test.YtbpgoopmfofcnaaFlBits
import Derived.WalkKit
import Derived.WalkLawsBesides
import Derived.WalkSpells
import Derived.OwnWalk
import Derived.Lib.Hide
import Derived.Outline
namespace Go.Proofs.Ytbpgoopmfofcnaa
open Go.RowKit

theorem ret_int {k : IntKind} {a b : Int} (h : a = b) : Ending.returned (.int k a) = .returned (.int k b) := by rw [h]
theorem ret_bool {a b : Bool} (h : a = b) : Ending.returned (.bool a) = .returned (.bool b) := by rw [h]

/-- Has a mask a bit? -/
def bitB (m b : Int) : Bool := decide (m / b % 2 = 1)
theorem bit_any (m b : Int) (w : World) (h0 : 0 ≤ m) (h1 : m ≤ 63) (hb : 1 ≤ b) (hb1 : b ≤ 32) :
    Calls Try.prog 8 #[.int .i64 m, .int .i64 b] w fun e w' => e = .returned (.bool (bitB m b)) ∧ w = w' := by
  have hq : 0 ≤ m / b := Int.ediv_nonneg h0 (by omega)
  have hq1 : m / b ≤ m := Int.ediv_le_self _ h0
  have e1 : m.tdiv b = m / b := Int.tdiv_eq_ediv_of_nonneg h0
  have e2 : (m / b).tmod 2 = m / b % 2 := Int.tmod_eq_emod_of_nonneg hq
  go_enter Try.func8, Try.ntmps8
  go_wp2
  go_ret
  exact ⟨rfl, rfl⟩

/-- May: the document's. -/
def rmay (m : Int) : Bool :=
  if m < 0 ∨ 63 < m ∨ bitB m 1 = true then false
  else if bitB m 8 = true then !bitB m 2 && !bitB m 4 && !bitB m 32 else !bitB m 32 || bitB m 2 || bitB m 4
theorem rmay_any (m : Int) (w : World) :
    Calls Try.prog 5 #[.int .i64 m] w fun e w' => e = .returned (.bool (rmay m)) ∧ w = w' := by
  by_cases h0 : m < 0
  · have e : rmay m = false := by unfold rmay; rw [if_pos (.inl h0)]
    rw [e]; clear e
    go_enter Try.func5, Try.ntmps5
    go_wp2
    go_ret
    exact ⟨rfl, rfl⟩
  by_cases h1 : 63 < m
  · have e : rmay m = false := by unfold rmay; rw [if_pos (.inr (.inl h1))]
    rw [e]; clear e
    go_enter Try.func5, Try.ntmps5
    go_wp2
    go_ret
    exact ⟨rfl, rfl⟩
  have e : rmay m = if bitB m 1 = true then false else if bitB m 8 = true then !bitB m 2 && !bitB m 4 && !bitB m 32 else !bitB m 32 || bitB m 2 || bitB m 4 := by
    unfold rmay
    by_cases hb : bitB m 1 = true
    · rw [if_pos (.inr (.inr hb)), if_pos hb]
    · rw [if_neg (fun h => h.elim h0 fun h => h.elim h1 hb), if_neg hb]
  rw [e]; clear e
  have h0 : 0 ≤ m := by omega
  have h1 : m ≤ 63 := by omega
  rcases Bool.eq_false_or_eq_true (bitB m 1) with b1 | b1 <;> rcases Bool.eq_false_or_eq_true (bitB m 8) with b8 | b8 <;>
    rcases Bool.eq_false_or_eq_true (bitB m 2) with b2 | b2 <;> rcases Bool.eq_false_or_eq_true (bitB m 4) with b4 | b4 <;>
    rcases Bool.eq_false_or_eq_true (bitB m 32) with b5 | b5 <;>
  · simp only [b1, b8, b2, b4, b5]
    go_enter Try.func5, Try.ntmps5
    go_wp2_with (go_at_call 8; refine (bit_any _ _ _ (by omega) (by omega) (by omega) (by omega)).mono ?_; rintro e w' ⟨rfl, rfl⟩)
    go_ret
    exact ⟨rfl, rfl⟩

/-- May: the program's. -/
def fmay (m : Int) : Bool :=
  if bits .andNot .i64 m 63 = 0 then
    if bits .and .i64 m 1 = 0 then
      if bits .and .i64 m 8 = 0 then
        if bits .and .i64 m 32 = 0 then true else bits .and .i64 m 6 != 0
      else bits .and .i64 m 38 == 0
    else false
  else false
theorem fmay_any (m : Int) (w : World) :
    Calls Try.prog 4 #[.int .i64 m] w fun e w' => e = .returned (.bool (fmay m)) ∧ w = w' := by
  unfold fmay
  by_cases h1 : bits .andNot .i64 m 63 = 0
  · rw [if_pos h1]
    by_cases h2 : bits .and .i64 m 1 = 0
    · rw [if_pos h2]
      by_cases h3 : bits .and .i64 m 8 = 0
      · rw [if_pos h3]
        by_cases h4 : bits .and .i64 m 32 = 0
        · rw [if_pos h4]
          go_enter Try.func4, Try.ntmps4
          go_wp2
          go_ret
          exact ⟨rfl, rfl⟩
        · rw [if_neg h4]
          go_enter Try.func4, Try.ntmps4
          go_wp2
          go_ret
          exact ⟨rfl, rfl⟩
      · rw [if_neg h3]
        go_enter Try.func4, Try.ntmps4
        go_wp2
        go_ret
        exact ⟨rfl, rfl⟩
    · rw [if_neg h2]
      go_enter Try.func4, Try.ntmps4
      go_wp2
      go_ret
      exact ⟨rfl, rfl⟩
  · rw [if_neg h1]
    go_enter Try.func4, Try.ntmps4
    go_wp2
    go_ret
    exact ⟨rfl, rfl⟩
theorem may_small : ∀ n : Fin 64, fmay (n.val : Int) = rmay (n.val : Int) := by decide +kernel
theorem may_same (m : Int) (h0 : -9223372036854775808 ≤ m) (h1 : m ≤ 9223372036854775807) : fmay m = rmay m := by
  by_cases h : 0 ≤ m ∧ m ≤ 63
  · have := may_small ⟨m.toNat, by omega⟩
    rw [show ((⟨m.toNat, by omega⟩ : Fin 64).val : Int) = m by simp; omega] at this
    exact this
  · have e := andNot_lo m 63 h0 h1 (by omega)
    have e0 : (m % 64).toNat &&& (63 - 63) = 0 := by simp
    rw [e0] at e
    have e1 : rmay m = false := by unfold rmay; rw [if_pos (by omega)]
    rw [e1]
    unfold fmay
    rw [if_neg (by have e' : bits .andNot .i64 m 63 = m / 64 * 64 + ((0 : Nat) : Int) := e; rw [e']; omega)]

/-- Ready: the document's, on masks below 64. -/
def bit0 (k : Nat) (a b : Int) : Int := if bitB a (2 ^ (k + 1)) = true ∧ bitB b (2 ^ (k + 1)) = true then 2 ^ (k + 1) else 0
def part (a b : Int) : Nat → Int
  | 0 => 0
  | k + 1 => part a b k + bit0 k a b
def rrdy (a b : Int) : Int := part a b 3 + (if 0 < part a b 3 ∧ bitB a 32 = true then 32 else 0) + (if bitB b 1 = true then 1 else 0)
theorem part_le (a b : Int) : ∀ k, 0 ≤ part a b k ∧ part a b k ≤ 2 ^ (k + 1) - 2
  | 0 => by simp [part]
  | k + 1 => by
    have ⟨p, q⟩ := part_le a b k
    have e : (2 : Int) ^ (k + 1 + 1) = 2 ^ (k + 1) * 2 := Int.pow_succ ..
    have e0 : (0 : Int) < 2 ^ (k + 1) := Int.pow_pos (by omega)
    unfold part bit0
    split <;> omega
def RdRel (a b : Int) (o i : Value) : Prop := ∃ (k : Nat) (p v : Int), k ≤ 3 ∧ v = 2 ^ (k + 1) ∧ p = part a b k ∧ i = .int .i64 v ∧ o = .int .i64 p
theorem rd_next {a b : Int} {k : Nat} {p v q : Int} (hk : k + 1 ≤ 3) (hv : v * 1 = 2 ^ (k + 1)) (hp : p = part a b k) (u : Int) (hu : u = v * 2) (hq : q = p + if bitB a v = true ∧ bitB b v = true then v else 0) :
    RdRel a b (.int .i64 q) (.int .i64 u) := by
  refine ⟨k + 1, q, u, hk, ?_, ?_, rfl, rfl⟩
  · rw [hu, Int.pow_succ 2 (k + 1)]; omega
  · rw [hq, hp, show v = 2 ^ (k + 1) by omega]; rfl
set_option maxHeartbeats 1000000 in
theorem rrdy_any (a b : Int) (w : World) (a0 : 0 ≤ a) (a1 : a ≤ 63) (b0 : 0 ≤ b) (b1 : b ≤ 63) :
    Calls Try.prog 7 #[.int .i64 a, .int .i64 b] w fun e w' => e = .returned (.int .i64 (rrdy a b)) ∧ w = w' := by
  go_enter Try.func7, Try.ntmps7
  go_wp2_with fail
  go_loop [5, 6] (fun o i => RdRel a b o i) (fun _ i => (16 - intOf i).toNat)
  case atStart => exact ⟨0, 0, 2, by omega, rfl, rfl, rfl, rfl⟩
  case round =>
    obtain ⟨k, p, v, hk, hv, hp, rfl, rfl⟩ := hrel
    have hle := part_le a b k
    rw [← hp] at hle
    have hc : k = 3 ∨ ((v = 2 ∨ v = 4 ∨ v = 8) ∧ k + 1 ≤ 3 ∧ p ≤ 14) := by
      obtain rfl | rfl | rfl | rfl : k = 0 ∨ k = 1 ∨ k = 2 ∨ k = 3 := by omega
      all_goals simp at hv hle
      all_goals omega
    have hv1 : 2 ≤ v ∧ v ≤ 16 := by
      obtain rfl | rfl | rfl | rfl : k = 0 ∨ k = 1 ∨ k = 2 ∨ k = 3 := by omega
      all_goals simp at hv
      all_goals omega
    rcases hc with rfl | ⟨hc, hk1, hp14⟩
    · obtain rfl : v = 16 := by simpa using hv
      have hp0 : 0 ≤ p ∧ p ≤ 14 := by simp at hle; exact hle
      have HP := Lib.hid hp
      clear hp hv hle
      by_cases hpos : 0 < p
      · rcases Bool.eq_false_or_eq_true (bitB a 32) with x5 | x5 <;> rcases Bool.eq_false_or_eq_true (bitB b 1) with y1 | y1
        all_goals
          go_wp2_with (go_at_call 8; refine (bit_any _ _ _ (by omega) (by omega) (by omega) (by omega)).mono ?_; rintro e w' ⟨rfl, rfl⟩)
          go_ret
          exact ⟨ret_int (by unfold rrdy; rw [← HP.out]; simp [hpos, x5, y1]), rfl⟩
      · rcases Bool.eq_false_or_eq_true (bitB b 1) with y1 | y1
        all_goals
          go_wp2_with (go_at_call 8; refine (bit_any _ _ _ (by omega) (by omega) (by omega) (by omega)).mono ?_; rintro e w' ⟨rfl, rfl⟩)
          go_ret
          exact ⟨ret_int (by unfold rrdy; rw [← HP.out, if_neg (fun h => by have := h.1; omega)]; simp [y1]), rfl⟩
    · have HP := Lib.hid hp
      have HV := Lib.hid hv
      clear hp hv
      have hp0 : 0 ≤ p := hle.1
      clear hle
      have hv2 : v ≤ 8 := by omega
      rcases Bool.eq_false_or_eq_true (bitB a v) with x5 | x5 <;> rcases Bool.eq_false_or_eq_true (bitB b v) with y1 | y1
      all_goals
        go_wp2_with (go_at_call 8; refine (bit_any _ _ _ (by omega) (by omega) (by omega) (by omega)).mono ?_; rintro e w' ⟨rfl, rfl⟩)
        go_round
        case rel => exact rd_next hk1 (by rw [Int.mul_one]; exact HV.out) HP.out _ rfl (by simp [x5, y1])
        case measure => simp [intOf]; omega

/-- Ready: the program's. -/
def frdy (a b : Int) : Int :=
  if bits .and .i64 (bits .and .i64 a b) 14 = 0 then bits .or .i64 (bits .and .i64 (bits .and .i64 a b) 14) (bits .and .i64 b 1)
  else bits .or .i64 (bits .or .i64 (bits .and .i64 (bits .and .i64 a b) 14) (bits .and .i64 a 32)) (bits .and .i64 b 1)
theorem frdy_any (a b : Int) (w : World) :
    Calls Try.prog 6 #[.int .i64 a, .int .i64 b] w fun e w' => e = .returned (.int .i64 (frdy a b)) ∧ w = w' := by
  by_cases h : bits .and .i64 (bits .and .i64 a b) 14 = 0
  · have e : frdy a b = bits .or .i64 0 (bits .and .i64 b 1) := by unfold frdy; rw [if_pos h, h]
    rw [e]; clear e
    go_enter Try.func6, Try.ntmps6
    go_wp2
    go_ret
    exact ⟨rfl, rfl⟩
  · have e : frdy a b = bits .or .i64 (bits .or .i64 (bits .and .i64 (bits .and .i64 a b) 14) (bits .and .i64 a 32)) (bits .and .i64 b 1) := by unfold frdy; rw [if_neg h]
    rw [e]; clear e
    go_enter Try.func6, Try.ntmps6
    go_wp2
    go_ret
    exact ⟨rfl, rfl⟩
theorem rdy_small : ∀ m n : Fin 64, frdy (m.val : Int) (n.val : Int) = rrdy (m.val : Int) (n.val : Int) := by decide +kernel
theorem rdy_same (a b : Int) (a0 : 0 ≤ a) (a1 : a ≤ 63) (b0 : 0 ≤ b) (b1 : b ≤ 63) : frdy a b = rrdy a b := by
  have := rdy_small ⟨a.toNat, by omega⟩ ⟨b.toNat, by omega⟩
  rw [show ((⟨a.toNat, by omega⟩ : Fin 64).val : Int) = a by simp; omega, show ((⟨b.toNat, by omega⟩ : Fin 64).val : Int) = b by simp; omega] at this
  exact this

theorem asks_any (m a b : Int) (w : World) (h0 : -9223372036854775808 ≤ m) (h1 : m ≤ 9223372036854775807) (a0 : 0 ≤ a) (a1 : a ≤ 255) (b0 : 0 ≤ b) (b1 : b ≤ 255) :
    Calls Try.prog 3 #[.int .i64 m, .int .u8 a, .int .u8 b] w fun e w' => e = .returned (.bool true) ∧ w = w' := by
  have hm := Lib.hid (may_same m h0 h1)
  obtain ⟨x, hx⟩ : ∃ x, a % 64 = x := ⟨_, rfl⟩
  obtain ⟨y, hy⟩ : ∃ y, b % 64 = y := ⟨_, rfl⟩
  have hr := Lib.hid (rdy_same x y (by omega) (by omega) (by omega) (by omega))
  have x0 : 0 ≤ x ∧ x ≤ 63 := by omega
  have y0 : 0 ≤ y ∧ y ≤ 63 := by omega
  obtain ⟨x0, x1⟩ := x0
  obtain ⟨y0, y1⟩ := y0
  go_enter Try.func3, Try.ntmps3
  go_wp2_with (first
    | (go_at_call 4; refine (fmay_any _ _).mono ?_; rintro e w' ⟨rfl, rfl⟩; rw [hm.out])
    | (go_at_call 5; refine (rmay_any _ _).mono ?_; rintro e w' ⟨rfl, rfl⟩)
    | (go_at_call 6; refine (frdy_any _ _ _).mono ?_; rintro e w' ⟨rfl, rfl⟩; rw [hr.out])
    | (go_at_call 7; refine (rrdy_any _ _ _ (by omega) (by omega) (by omega) (by omega)).mono ?_; rintro e w' ⟨rfl, rfl⟩))
  go_ret
  exact ⟨rfl, rfl⟩
end Go.Proofs.Ytbpgoopmfofcnaa
