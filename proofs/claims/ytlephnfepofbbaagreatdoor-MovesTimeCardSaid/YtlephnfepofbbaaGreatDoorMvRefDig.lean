/-
  The document's digits and word.
-/
import Derived.Test.YtlephnfepofbbaaGreatDoorMvStepH
import Derived.IntWalk
namespace Go.Proofs.YtlephnfepofbbaaGreatDoor
open Go.RowKit

theorem conv_dig (m : Nat) (hm : m < 10) (z : Int) (hz : z = 48 + (m : Int)) (w : World) : Sem.run Tryz.prog (convert 23 9 (.slice (some ⟨w.heap.size, 0, none⟩) 1 1)) (w.alloc (.cells #[.int .u8 z] 5)) = .ok (.string ⟨#[UInt8.ofNat (48 + m)]⟩) (w.alloc (.cells #[.int .u8 z] 5)) := by
  refine run_convert_bytes_back (P := Tryz.prog) _ 23 9 5 ⟨w.heap.size, 0, none⟩ 1 [UInt8.ofNat (48 + m)] Tryz.underlying23 Tryz.underlying5 Tryz.underlying9 fun j hj => ?_
  have h0 : j = 0 := by simp at hj; omega
  subst h0 hz
  show (w.alloc _).cell? ⟨w.heap.size, 0, none⟩ = _
  rw [World.cell?_alloc_at _ _ _ _ rfl]
  simp
  omega
theorem ba_ext {a b : ByteArray} (h : a.data.toList = b.data.toList) : a = b := by
  cases a; cases b; simp at h; rw [h]
theorem ret_str {a b : ByteArray} (h : a = b) : Ending.returned (.string a) = .returned (.string b) := by rw [h]

set_option maxRecDepth 100000 in
set_option maxHeartbeats 2000000 in
theorem rdigits_any (n : Nat) (hn : n ≤ 18446744073709551615) (w : World) : Calls Tryz.prog 91 #[.int .u64 (n : Int)] w fun e w' => e = .returned (.string ⟨(Lib.decDigits n).toArray⟩) ∧ Below w.heap.size w w' := by
  obtain ⟨D, hD⟩ : ∃ D, Lib.decDigits n = D := ⟨_, rfl⟩
  have hl : D.length ≤ 20 := by rw [← hD]; exact dec_len n (by omega)
  rw [hD]
  have HD := Lib.hid hD
  have HL := Lib.hid hl
  obtain ⟨M, hM⟩ : ∃ M, (18446744073709551615 : Nat) = M := ⟨_, rfl⟩
  rw [hM] at hn
  have HM := Lib.hid hM
  clear hD hl hM
  go_enter Tryz.func91, Tryz.ntmps91
  go_wp2_with fail
  go_loopw [0, 3] (fun a b wr => ∃ (m : Nat) (s : ByteArray), a = .int .u64 (m : Int) ∧ b = .string s ∧ m ≤ M ∧ Hid (Lib.decDigits m ++ s.data.toList = D) ∧ Hid (Below w.heap.size w wr)) (fun a _ _ => (intOf a).toNat)
  case atStart => exact ⟨n, ⟨#[]⟩, rfl, rfl, hn, Lib.hid (by rw [HD.out]; simp), Lib.hid (Below.refl _ _)⟩
  case round =>
    obtain ⟨m, s, rfl, rfl, hm, HS, HB⟩ := hrel
    have hsz : s.size ≤ 20 := by
      have h1 := congrArg List.length HS.out
      have := HL.out
      rw [List.length_append, ← Lib.size_eq] at h1; omega
    have hm64 : (m : Int) ≤ 18446744073709551615 := by have := HM.out; omega
    have hs63 : ¬ (9223372036854775807 : Int) < (((⟨#[UInt8.ofNat (48 + m % 10)]⟩ : ByteArray).size + s.size : Nat) : Int) := by
      have : (⟨#[UInt8.ofNat (48 + m % 10)]⟩ : ByteArray).size = 1 := rfl
      omega
    have bx : Below w.heap.size w (wr.alloc (.cells #[.int .u8 (48 + (m : Int) % 10)] 5)) := HB.out.alloc HB.out.size _
    have c1 := conv_dig (m % 10) (by omega) (48 + (m : Int) % 10) (by omega) wr
    have hq : IntKind.u64.wrap (48 + (m : Int) % 10) = 48 + (m : Int) % 10 := IntWalk.u64_in _ (by omega)
    by_cases h : m < 10
    · have h9 : ¬ (9 : Int) < (m : Int) := by omega
      have hmod : m % 10 = m := Nat.mod_eq_of_lt h
      have hmi : (m : Int) % 10 = (m : Int) := by omega
      have hX := HS.out
      rw [dec_lt h] at hX
      rw [hmod] at c1 hs63
      rw [hmi] at c1 bx hq
      obtain ⟨x, hx⟩ : ∃ x : UInt8, UInt8.ofNat (48 + m) = x := ⟨_, rfl⟩
      rw [hx] at c1 hX hs63
      have HX := Lib.hid hX
      have BX := Lib.hid bx
      clear hX hx bx hmod hmi hsz
      go_wp2_with fail
      go_ret
      exact ⟨ret_str (ba_ext (by rw [ByteArray.data_append, Array.toList_append]; exact HX.out)), BX.out⟩
    · have h9 : (9 : Int) < (m : Int) := by omega
      have hX := HS.out
      rw [dec_ge h] at hX
      obtain ⟨x, hx⟩ : ∃ x : UInt8, UInt8.ofNat (48 + m % 10) = x := ⟨_, rfl⟩
      rw [hx] at c1 hX hs63
      have HX := Lib.hid hX
      have BX := Lib.hid bx
      clear hX hx bx hsz
      go_wp2_with fail
      go_roundw
      case rel => exact ⟨m / 10, _, by go_num, rfl, by omega, Lib.hid (by rw [ByteArray.data_append, Array.toList_append, ← HX.out, List.append_assoc]), BX⟩
      case measure => simp [intOf]; omega

theorem rword_any (op : Int) (w : World) : Calls Tryz.prog 92 #[.int .i64 op] w fun e w' => e = .returned (.string ⟨(wordI op).toArray⟩) ∧ Below w.heap.size w w' := by
  by_cases h1 : op < 1
  · have e : wordI op = [] := by
      unfold wordI
      have : op.toNat = 0 := by omega
      rw [this]; rfl
    rw [e]
    clear e
    go_enter Tryz.func92, Tryz.ntmps92
    go_wp2_with fail
    go_ret
    exact ⟨rfl, Below.refl _ _⟩
  by_cases h7 : 7 < op
  · have e : wordI op = [] := by
      unfold wordI wordN
      have : 7 < op.toNat := by omega
      split <;> first | omega | rfl
    rw [e]
    clear e
    go_enter Tryz.func92, Tryz.ntmps92
    go_wp2_with fail
    go_ret
    exact ⟨rfl, Below.refl _ _⟩
  have hc : op = 1 ∨ op = 2 ∨ op = 3 ∨ op = 4 ∨ op = 5 ∨ op = 6 ∨ op = 7 := by omega
  clear h1 h7
  rcases hc with rfl | rfl | rfl | rfl | rfl | rfl | rfl <;>
    (go_enter Tryz.func92, Tryz.ntmps92
     go_wp2_with fail
     go_ret
     exact ⟨rfl, (Below.refl _ _).alloc (Nat.le_refl _) _⟩)
end Go.Proofs.YtlephnfepofbbaaGreatDoor
