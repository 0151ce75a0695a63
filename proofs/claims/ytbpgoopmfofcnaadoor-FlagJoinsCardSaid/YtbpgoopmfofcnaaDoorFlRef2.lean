/-
  The document's Text, FeatText, Parse, FeatParse.
-/
import Derived.Test.YtbpgoopmfofcnaaDoorFlRef
namespace Go.Proofs.YtbpgoopmfofcnaaDoor
open Go.RowKit

theorem ret_pair {k l : IntKind} {a b c d : Int} (h : a = c) (g : b = d) : Ending.returned (.tuple #[.int k a, .int l b]) = .returned (.tuple #[.int k c, .int l d]) := by rw [h, g]
theorem rallW (z : Int) (w : World) : Calls Tryd.prog 31 #[.int .i64 z, .bool true] w fun e w' => e = .returned (.tuple #[.string (textB wordB 6 z), .int .i64 (textE 6 z)]) ∧ w = w' := by
  by_cases h : 0 ≤ z ∧ z < 2 ^ 6
  · exact rall_ok z w 6 wordB true (by omega) rfl h.1 h.2 (fun k hk => wordR_bit k hk) word_len word_ne
  · exact rall_bad z true w 6 wordB rfl h
theorem rallF (z : Int) (w : World) : Calls Tryd.prog 31 #[.int .i64 z, .bool false] w fun e w' => e = .returned (.tuple #[.string (textB featB 4 z), .int .i64 (textE 4 z)]) ∧ w = w' := by
  by_cases h : 0 ≤ z ∧ z < 2 ^ 4
  · exact rall_ok z w 4 featB false (by omega) rfl h.1 h.2 (fun k hk => featR_bit k hk) feat_len feat_ne
  · exact rall_bad z false w 4 featB rfl h
theorem rtextW_any (z : Int) (w : World) : Calls Tryd.prog 10 #[.int .i64 z] w fun e w' => e = .returned (.tuple #[.string (textB wordB 6 z), .int .i64 (textE 6 z)]) ∧ w = w' := by
  go_enter Tryd.func10, Tryd.ntmps10
  go_wp2_with (go_at_call 31; refine (rallW _ _).mono ?_; rintro e w' ⟨rfl, rfl⟩)
  go_ret2
  exact ⟨rfl, rfl⟩
theorem rtextF_any (z : Int) (w : World) : Calls Tryd.prog 12 #[.int .i64 z] w fun e w' => e = .returned (.tuple #[.string (textB featB 4 z), .int .i64 (textE 4 z)]) ∧ w = w' := by
  go_enter Tryd.func12, Tryd.ntmps12
  go_wp2_with (go_at_call 31; refine (rallF _ _).mono ?_; rintro e w' ⟨rfl, rfl⟩)
  go_ret2
  exact ⟨rfl, rfl⟩
theorem pr_hit {Wd : Nat → ByteArray} {n : Nat} (K : Kind Wd n) {s : ByteArray} {v : Int} (h0 : 0 ≤ v) (h1 : v < 2 ^ n) (h : textB Wd n v = s) : prV Wd n s = v ∧ prE Wd n s = 0 := by
  have e := (PR_iff K s v).2 ⟨h0, h1, h⟩
  unfold prV prE; rw [e]; exact ⟨rfl, rfl⟩
theorem pr_miss {Wd : Nat → ByteArray} {n : Nat} (K : Kind Wd n) {s : ByteArray} (h : ∀ v : Nat, v < 2 ^ n → textB Wd n v ≠ s) : prV Wd n s = 0 ∧ prE Wd n s = 50 := by
  have e : PR Wd n s = none := by
    cases e : PR Wd n s with
    | none => rfl
    | some v =>
      obtain ⟨h0, h1, h2⟩ := (PR_iff K s v).1 e
      have hpi : (2 : Int) ^ n = ((2 ^ n : Nat) : Int) := by simp
      exact absurd (by rw [show ((v.toNat : Nat) : Int) = v by omega]; exact h2) (h v.toNat (by omega))
  unfold prV prE; rw [e]; exact ⟨rfl, rfl⟩
set_option maxRecDepth 100000 in
set_option maxHeartbeats 1000000 in
theorem rfindW (s : ByteArray) (w : World) : Calls Tryd.prog 34 #[.string s, .bool true] w fun e w' => e = .returned (.tuple #[.int .i64 (prV wordB 6 s), .int .i64 (prE wordB 6 s)]) ∧ w = w' := by
  go_enter Tryd.func34, Tryd.ntmps34
  go_wp2_with fail
  go_loop [7] (fun i => ∃ k : Nat, k ≤ 64 ∧ i = .int .i64 (k : Int) ∧ ∀ v : Nat, v < k → textB wordB 6 (v : Int) ≠ s) (fun i => 64 - (intOf i).toNat)
  case atStart => exact ⟨0, by omega, rfl, fun v h => by omega⟩
  case round =>
    obtain ⟨k, hk, rfl, hP⟩ := hrel
    have HP := Lib.hid hP
    clear hP
    by_cases hlt : k ≤ 63
    · by_cases hm : textB wordB 6 (k : Int) = s
      · have hB := Lib.hid (pr_hit kindW (s := s) (v := (k : Int)) (by omega) (by have : (2 : Int) ^ 6 = 64 := rfl; omega) hm)
        have hm1 : ((textB wordB 6 (k : Int)).toList == s.toList) = true := bytes_eq hm
        clear hm
        go_wp2_with (go_at_call 31; refine (rallW _ _).mono ?_; rintro e w' ⟨rfl, rfl⟩)
        go_ret2
        exact ⟨ret_pair hB.out.1.symm hB.out.2.symm, rfl⟩
      · have hm1 : ((textB wordB 6 (k : Int)).toList == s.toList) = false := bytes_ne hm
        have HQ : Hid (∀ v : Nat, v < k + 1 → textB wordB 6 (v : Int) ≠ s) := fun v h => by
          by_cases e : v = k
          · rw [e]; exact hm
          · exact HP.out v (by omega)
        clear hm
        go_wp2_with (go_at_call 31; refine (rallW _ _).mono ?_; rintro e w' ⟨rfl, rfl⟩)
        go_round
        case rel => exact ⟨k + 1, by omega, by go_num, HQ.out⟩
        case measure => simp [intOf]; omega
    · have hB := Lib.hid (pr_miss kindW (s := s) (fun v hv => HP.out v (by have : (2 : Nat) ^ 6 = 64 := rfl; omega)))
      go_wp2
      go_ret2
      exact ⟨ret_pair hB.out.1.symm hB.out.2.symm, rfl⟩
theorem rparseW_any (s : ByteArray) (w : World) : Calls Tryd.prog 14 #[.string s] w fun e w' => e = .returned (.tuple #[.int .i64 (prV wordB 6 s), .int .i64 (prE wordB 6 s)]) ∧ w = w' := by
  go_enter Tryd.func14, Tryd.ntmps14
  go_wp2_with (go_at_call 34; refine (rfindW _ _).mono ?_; rintro e w' ⟨rfl, rfl⟩)
  go_ret2
  exact ⟨rfl, rfl⟩
set_option maxRecDepth 100000 in
set_option maxHeartbeats 1000000 in
theorem rfindF (s : ByteArray) (w : World) : Calls Tryd.prog 34 #[.string s, .bool false] w fun e w' => e = .returned (.tuple #[.int .i64 (prV featB 4 s), .int .i64 (prE featB 4 s)]) ∧ w = w' := by
  go_enter Tryd.func34, Tryd.ntmps34
  go_wp2_with fail
  go_loop [7] (fun i => ∃ k : Nat, k ≤ 16 ∧ i = .int .i64 (k : Int) ∧ ∀ v : Nat, v < k → textB featB 4 (v : Int) ≠ s) (fun i => 16 - (intOf i).toNat)
  case atStart => exact ⟨0, by omega, rfl, fun v h => by omega⟩
  case round =>
    obtain ⟨k, hk, rfl, hP⟩ := hrel
    have HP := Lib.hid hP
    clear hP
    by_cases hlt : k ≤ 15
    · by_cases hm : textB featB 4 (k : Int) = s
      · have hB := Lib.hid (pr_hit kindF (s := s) (v := (k : Int)) (by omega) (by have : (2 : Int) ^ 4 = 16 := rfl; omega) hm)
        have hm1 : ((textB featB 4 (k : Int)).toList == s.toList) = true := bytes_eq hm
        clear hm
        go_wp2_with (go_at_call 31; refine (rallF _ _).mono ?_; rintro e w' ⟨rfl, rfl⟩)
        go_ret2
        exact ⟨ret_pair hB.out.1.symm hB.out.2.symm, rfl⟩
      · have hm1 : ((textB featB 4 (k : Int)).toList == s.toList) = false := bytes_ne hm
        have HQ : Hid (∀ v : Nat, v < k + 1 → textB featB 4 (v : Int) ≠ s) := fun v h => by
          by_cases e : v = k
          · rw [e]; exact hm
          · exact HP.out v (by omega)
        clear hm
        go_wp2_with (go_at_call 31; refine (rallF _ _).mono ?_; rintro e w' ⟨rfl, rfl⟩)
        go_round
        case rel => exact ⟨k + 1, by omega, by go_num, HQ.out⟩
        case measure => simp [intOf]; omega
    · have hB := Lib.hid (pr_miss kindF (s := s) (fun v hv => HP.out v (by have : (2 : Nat) ^ 4 = 16 := rfl; omega)))
      go_wp2
      go_ret2
      exact ⟨ret_pair hB.out.1.symm hB.out.2.symm, rfl⟩
theorem rparseF_any (s : ByteArray) (w : World) : Calls Tryd.prog 16 #[.string s] w fun e w' => e = .returned (.tuple #[.int .i64 (prV featB 4 s), .int .i64 (prE featB 4 s)]) ∧ w = w' := by
  go_enter Tryd.func16, Tryd.ntmps16
  go_wp2_with (go_at_call 34; refine (rfindF _ _).mono ?_; rintro e w' ⟨rfl, rfl⟩)
  go_ret2
  exact ⟨rfl, rfl⟩
end Go.Proofs.YtbpgoopmfofcnaaDoor
