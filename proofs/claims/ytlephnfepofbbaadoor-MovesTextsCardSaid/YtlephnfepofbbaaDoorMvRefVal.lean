/-
  The document's digits back: nibble, value, small.
-/
import Derived.Test.YtlephnfepofbbaaDoorMvData
import Derived.Test.YtlephnfepofbbaaDoorMvBase
namespace Go.Proofs.YtlephnfepofbbaaDoor
open Go.RowKit

set_option maxRecDepth 100000 in
theorem rnibble_any (c : UInt8) (w : World) : Calls Tryd.prog 54 #[.int .u8 (c.toNat : Int)] w fun e w' => e = .returned (.int .u8 (nibR c : Int)) ∧ w = w' := by
  have hc := UInt8.toNat_lt c
  obtain ⟨z, hz⟩ : ∃ z : Nat, nibR c = z := ⟨_, rfl⟩
  rw [hz]
  unfold nibR at hz
  obtain ⟨k, hk⟩ : ∃ k : Nat, c.toNat = k := ⟨_, rfl⟩
  rw [hk] at hz hc ⊢
  have k0 : (0 : Int) ≤ (k : Int) := by omega
  have k1 : (k : Int) < 256 := by omega
  by_cases h1 : 48 ≤ k ∧ k ≤ 57
  · rw [if_pos h1] at hz
    have a1 : (48 : Int) ≤ (k : Int) := by omega
    have a2 : (k : Int) ≤ 57 := by omega
    have hz' : (z : Int) = (k : Int) - 48 := by omega
    rw [hz']
    clear hz hz' h1 hk hc
    go_enter Tryd.func54, Tryd.ntmps54
    go_wp2_with fail
    go_ret
    exact ⟨by first | rfl | (apply ret_int; omega), rfl⟩
  rw [if_neg h1] at hz
  by_cases h2 : 97 ≤ k ∧ k ≤ 102
  · rw [if_pos h2] at hz
    have a1 : (48 : Int) ≤ (k : Int) := by omega
    have a2 : ¬ (k : Int) ≤ 57 := by omega
    have a3 : (97 : Int) ≤ (k : Int) := by omega
    have a4 : (k : Int) ≤ 102 := by omega
    have hz' : (z : Int) = (k : Int) - 97 + 10 := by omega
    rw [hz']
    clear hz hz' h1 h2 hk hc
    go_enter Tryd.func54, Tryd.ntmps54
    go_wp2_with fail
    go_ret
    exact ⟨by first | rfl | (apply ret_int; omega), rfl⟩
  rw [if_neg h2] at hz
  subst hz
  have h1' : (k : Int) < 48 ∨ (48 ≤ (k : Int) ∧ ¬ (k : Int) ≤ 57) := by omega
  have h2' : (k : Int) < 97 ∨ (97 ≤ (k : Int) ∧ ¬ (k : Int) ≤ 102) := by omega
  clear h1 h2 hk hc
  rcases h1' with a1 | ⟨a1, a2⟩ <;> rcases h2' with b1 | ⟨b1, b2⟩
  all_goals
    go_enter Tryd.func54, Tryd.ntmps54
    go_wp2_with fail
    all_goals first
      | (go_ret
         exact ⟨rfl, rfl⟩)
      | (exfalso; omega)

theorem valR_stop (n : Nat) (c : UInt8) (r : List UInt8) (h : c.toNat < 48 ∨ 57 < c.toNat ∨ 1844674407370955161 < n) : valR n (c :: r) = n := by unfold valR; rw [if_pos h]
theorem valR_stop2 (n : Nat) (c : UInt8) (r : List UInt8) (h : ¬ (c.toNat < 48 ∨ 57 < c.toNat ∨ 1844674407370955161 < n)) (h2 : n = 1844674407370955161 ∧ 5 < c.toNat - 48) : valR n (c :: r) = n := by unfold valR; rw [if_neg h, if_pos h2]
theorem valR_go (n : Nat) (c : UInt8) (r : List UInt8) (h : ¬ (c.toNat < 48 ∨ 57 < c.toNat ∨ 1844674407370955161 < n)) (h2 : ¬ (n = 1844674407370955161 ∧ 5 < c.toNat - 48)) : valR n (c :: r) = valR (10 * n + (c.toNat - 48)) r := by
  conv => lhs; unfold valR
  rw [if_neg h, if_neg h2]
set_option maxRecDepth 100000 in
set_option maxHeartbeats 8000000 in
theorem rvalue_any (s : ByteArray) (hs : s.size ≤ 100000) (w : World) : Calls Tryd.prog 41 #[.string s] w fun e w' => e = .returned (.int .u64 (valR 0 s.data.toList : Int)) ∧ w = w' := by
  obtain ⟨V, hV⟩ : ∃ V, valR 0 s.data.toList = V := ⟨_, rfl⟩
  rw [hV]
  obtain ⟨n, hn⟩ : ∃ n, s.size = n := ⟨_, rfl⟩
  have hl : s.data.toList.length = n := by rw [← Lib.size_eq, hn]
  have HV := Lib.hid hV
  have HL := Lib.hid hl
  rw [hn] at hs
  clear hV hl
  go_enter Tryd.func41, Tryd.ntmps41
  go_wp2_with fail
  go_loop [3, 4] (fun v i => ∃ (j a : Nat), j ≤ n ∧ v = .int .u64 a ∧ i = .int .i64 j ∧ Hid (V = valR a (s.data.toList.drop j)) ∧ Hid (a < 18446744073709551616)) (fun _ i => n - (intOf i).toNat)
  case atStart => exact ⟨0, 0, Nat.zero_le _, rfl, rfl, Lib.hid (by rw [← HV.out]; simp), Lib.hid (by omega)⟩
  case round =>
    obtain ⟨j, a, hj, rfl, rfl, HR, HA⟩ := hrel
    by_cases hlt : j < n
    · have hlt' : (j : Int) < (n : Int) := by omega
      have hL := HL.out
      obtain ⟨c, hc⟩ : ∃ c, s.data.toList[j]? = some c := ⟨_, List.getElem?_eq_getElem (by omega)⟩
      have hdrop : s.data.toList.drop j = c :: s.data.toList.drop (j + 1) := by
        obtain ⟨p1, p2⟩ := List.getElem?_eq_some_iff.1 hc
        rw [List.drop_eq_getElem_cons p1, p2]
      have i1 := str_run s j c hc (j : Int) rfl
      have hc256 := UInt8.toNat_lt c
      have hR := HR.out
      rw [hdrop] at hR
      obtain ⟨r, hr⟩ : ∃ r, s.data.toList.drop (j + 1) = r := ⟨_, rfl⟩
      rw [hr] at hR
      obtain ⟨k, hk⟩ : ∃ k : Nat, c.toNat = k := ⟨_, rfl⟩
      rw [hk] at i1 hc256
      have k0 : (0 : Int) ≤ (k : Int) := by omega
      have ka : (0 : Int) ≤ (a : Int) := by omega
      clear hdrop hL hc HR
      by_cases h1 : k < 48
      · have h1' : (k : Int) < 48 := by omega
        have HE := Lib.hid (hR.trans (valR_stop a c r (.inl (by omega))))
        clear hR hk h1 hr
        go_wp2_with fail
        go_ret
        exact ⟨ret_int (by rw [HE.out] <;> rfl), rfl⟩
      have h1' : ¬ (k : Int) < 48 := by omega
      by_cases h2 : 57 < k
      · have h2' : (57 : Int) < (k : Int) := by omega
        have HE := Lib.hid (hR.trans (valR_stop a c r (.inr (.inl (by omega)))))
        clear hR hk h1 h2 hr
        go_wp2_with fail
        go_ret
        exact ⟨ret_int (by rw [HE.out] <;> rfl), rfl⟩
      have h2' : ¬ (57 : Int) < (k : Int) := by omega
      by_cases h3 : 1844674407370955161 < a
      · have h3' : (1844674407370955161 : Int) < (a : Int) := by omega
        have HE := Lib.hid (hR.trans (valR_stop a c r (.inr (.inr (by omega)))))
        clear hR hk h1 h2 h3 hr
        go_wp2_with fail
        go_ret
        exact ⟨ret_int (by rw [HE.out] <;> rfl), rfl⟩
      have h3' : ¬ (1844674407370955161 : Int) < (a : Int) := by omega
      have hno : ¬ (c.toNat < 48 ∨ 57 < c.toNat ∨ 1844674407370955161 < a) := by omega
      by_cases h4 : a = 1844674407370955161
      · subst h4
        by_cases h5 : 5 < k - 48
        · have h5' : (5 : Int) < (k : Int) - 48 := by omega
          have HE := Lib.hid (hR.trans (valR_stop2 _ c r hno ⟨rfl, by omega⟩))
          clear hR hk h1 h2 h3 h5 hr hno
          go_wp2_with fail
          go_ret
          exact ⟨ret_int (by rw [HE.out] <;> rfl), rfl⟩
        · have h5' : ¬ (5 : Int) < (k : Int) - 48 := by omega
          have HE := Lib.hid (hR.trans (valR_go _ c r hno (fun h => h5 (by omega))))
          have HK := Lib.hid hk
          have HRR := Lib.hid hr
          have h6 : (k : Int) ≤ 57 := by omega
          have h7 : (48 : Int) ≤ (k : Int) := by omega
          clear hR hk h1 h2 h3 h5 hr hno
          go_wp2_with fail
          go_round
          case rel => exact ⟨j + 1, 10 * 1844674407370955161 + (k - 48), by omega, by go_num, by go_num, Lib.hid (by rw [HE.out, HRR.out, HK.out]), Lib.hid (by omega)⟩
          case measure => simp [intOf]; omega
      · have h4' : ¬ (a : Int) = 1844674407370955161 := by omega
        have HE := Lib.hid (hR.trans (valR_go _ c r hno (fun h => h4 h.1)))
        have HK := Lib.hid hk
        have HRR := Lib.hid hr
        have h6 : (k : Int) ≤ 57 := by omega
        have h7 : (48 : Int) ≤ (k : Int) := by omega
        have h8 : (a : Int) ≤ 1844674407370955160 := by omega
        clear hR hk h1 h2 h3 hr hno h4
        go_wp2_with fail
        go_round
        case rel => exact ⟨j + 1, 10 * a + (k - 48), by omega, by go_num, by go_num, Lib.hid (by rw [HE.out, HRR.out, HK.out]), Lib.hid (by omega)⟩
        case measure => simp [intOf]; omega
    · obtain rfl : j = n := by omega
      have hlt' : ¬ (j : Int) < (j : Int) := by omega
      have HE := Lib.hid (show V = a by
        rw [HR.out, List.drop_eq_nil_of_le (by have := HL.out; omega)]; rfl)
      go_wp2_with fail
      go_ret
      exact ⟨ret_int (by rw [HE.out] <;> rfl), rfl⟩
theorem rsmall_any (s : ByteArray) (hs : s.size ≤ 100000) (w : World) : Calls Tryd.prog 42 #[.string s] w fun e w' => e = .returned (.int .i64 (smallR s.data.toList)) ∧ w = w' := by
  have hv := rvalue_any s hs w
  have hb := valR_lt s.data.toList 0 (by decide)
  obtain ⟨z, hz⟩ : ∃ z, smallR s.data.toList = z := ⟨_, rfl⟩
  rw [hz]
  unfold smallR at hz
  obtain ⟨v, hvv⟩ : ∃ v, valR 0 s.data.toList = v := ⟨_, rfl⟩
  rw [hvv] at hv hz hb
  have HV := Lib.hid hv
  clear hv hvv
  by_cases h : 9223372036854775807 < v
  · rw [if_pos h] at hz
    subst hz
    have h' : (9223372036854775807 : Int) < (v : Int) := by omega
    clear h hb
    go_enter Tryd.func42, Tryd.ntmps42
    go_wp2_with (go_at_call 41; refine HV.out.mono ?_; rintro e w' ⟨rfl, rfl⟩)
    go_ret
    exact ⟨rfl, rfl⟩
  · rw [if_neg h] at hz
    subst hz
    have h' : ¬ (9223372036854775807 : Int) < (v : Int) := by omega
    have h0 : (0 : Int) ≤ (v : Int) := by omega
    have h1 : (v : Int) ≤ 9223372036854775807 := by omega
    clear h hb
    go_enter Tryd.func42, Tryd.ntmps42
    go_wp2_with (go_at_call 41; refine HV.out.mono ?_; rintro e w' ⟨rfl, rfl⟩)
    go_ret
    exact ⟨rfl, rfl⟩
end Go.Proofs.YtlephnfepofbbaaDoor
