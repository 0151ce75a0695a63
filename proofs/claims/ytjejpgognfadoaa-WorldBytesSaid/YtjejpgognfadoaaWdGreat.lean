/-
  Great: calls that are too many, or too great, for a law.
-/
import Derived.Test.YtjejpgognfadoaaWdArg
namespace Go.Proofs.Ytjejpgognfadoaa
open Go.RowKit Go.Shelf Go.Maps Go.ChangeMaps

/-- A slice of calls that is small enough. -/
def Small (l : List OpW) : Prop := l.length ≤ 200 ∧ ∀ x ∈ l, x.b.length ≤ 300
set_option maxRecDepth 100000 in
set_option maxHeartbeats 2000000 in
theorem great_any (w : World) (A : Option Addr) (c : Nat) (l : List OpW) (hA : ArgW w A l) :
    Calls Try.prog 6 #[.slice A l.length c] w fun e w' => w = w' ∧ ((Small l ∧ e = .returned (.int .i64 0)) ∨ e = .returned (.int .i64 1)) := by
  have HA := Lib.hid hA
  clear hA
  go_enter Try.func6, Try.ntmps6
  by_cases h200 : 200 < l.length
  · have q1 : decide ((200 : Int) < (l.length : Int)) = true := by simp; omega
    have q2 : (200 : Int) < (l.length : Int) := by omega
    go_wp2_with fail
    go_ret
    exact ⟨rfl, .inr rfl⟩
  have q1 : decide ((200 : Int) < (l.length : Int)) = false := by simp; omega
  have q2 : ¬ (200 : Int) < (l.length : Int) := by omega
  go_wp2_with fail
  go_loopw [9] (fun v wr => ∃ i : Nat, v = .int .i64 (i : Int) ∧ i ≤ l.length ∧ wr = w ∧ ∀ x ∈ l.take i, x.b.length ≤ 300) (fun v _ => l.length - (intOf v).toNat)
  case atStart => exact ⟨0, rfl, by omega, rfl, fun x hx => by simp at hx⟩
  case round =>
    obtain ⟨i, rfl, hi, rfl, hall⟩ := hrel
    by_cases hlt : i < l.length
    · obtain ⟨b, off, x, rfl, hbl, hx, hok, -, -, -, -, x4⟩ := HA.out.at_ (Below.refl _ _) hlt
      obtain ⟨A, c, hv, -, -, -⟩ := hok.src
      rw [hv] at x4
      have b0 : (0 : Int) ≤ (i : Int) := by omega
      have b1 : (i : Int) < (l.length : Int) := by omega
      by_cases h3 : 300 < x.b.length
      · have q3 : decide ((300 : Int) < (x.b.length : Int)) = true := by simp; omega
        have q4 : (300 : Int) < (x.b.length : Int) := by omega
        clear hall hx hok
        go_wp2_with fail
        go_ret
        first | exact ⟨rfl, .inr rfl⟩ | exact ⟨trivial, .inr rfl⟩ | simp
      · have q3 : decide ((300 : Int) < (x.b.length : Int)) = false := by simp; omega
        have q4 : ¬ (300 : Int) < (x.b.length : Int) := by omega
        have HN := Lib.hid (show ∀ y ∈ l.take (i + 1), y.b.length ≤ 300 from fun y hy => by
          rw [List.take_add_one, hx] at hy
          simp at hy
          rcases hy with hy | rfl
          · exact hall y hy
          · omega)
        clear hall hx hok
        go_wp2_with fail
        go_roundw
        case rel => first | exact ⟨i + 1, by go_num, by omega, rfl, HN.out⟩ | exact ⟨i + 1, by go_num, by omega, trivial, HN.out⟩
        case measure => simp [intOf]; omega
    · obtain rfl : i = l.length := by omega
      have HN := Lib.hid (show Small l from ⟨by omega, fun x hx => hall x (by rw [List.take_length]; exact hx)⟩)
      clear hall
      go_wp2_with fail
      go_ret
      first | exact ⟨rfl, .inl ⟨HN.out, rfl⟩⟩ | exact ⟨trivial, .inl ⟨HN.out, rfl⟩⟩ | exact HN.out | (simp; exact .inl HN.out)
end Go.Proofs.Ytjejpgognfadoaa
