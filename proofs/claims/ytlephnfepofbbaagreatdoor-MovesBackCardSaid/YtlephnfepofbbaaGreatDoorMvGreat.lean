/-
  Great: whether steps are more than the statements go through: 0, and then they are few, or 1.
-/
import Derived.Test.YtlephnfepofbbaaGreatDoorMsBase
import Derived.Deep.QuietTactic
import Derived.BigQuiet
import Derived.IntWalk
import Derived.WalkSmall
namespace Go.Proofs.YtlephnfepofbbaaGreatDoor
open Go.RowKit

/-- Few steps. -/
structure Few (l : List St) : Prop where
  len : l.length ≤ 100
  each : ∀ x ∈ l, x.mv.length ≤ 60 ∧ x.ord.length ≤ 60 ∧ ∀ m ∈ x.mv, m.b.length ≤ 1100
def Great (l : List St) (w : World) (e : Ending) (w' : World) : Prop := ((e = .returned (.int .i64 0) ∧ Few l) ∨ e = .returned (.int .i64 1)) ∧ Below w.heap.size w w'
def FewT (l : List St) (j : Nat) : Prop := ∀ x ∈ l.take j, x.mv.length ≤ 60 ∧ x.ord.length ≤ 60 ∧ ∀ m ∈ x.mv, m.b.length ≤ 1100
theorem take_all' {α : Type} {p : α → Prop} {l : List α} {k : Nat} (hk : k < l.length) (h : ∀ x ∈ l.take k, p x) (hx : p l[k]) : ∀ x ∈ l.take (k + 1), p x := fun x hm => by
  rw [List.take_add_one, List.getElem?_eq_getElem hk] at hm
  rcases List.mem_append.1 hm with hm | hm
  · exact h x hm
  · have : x = l[k] := by simpa using hm
    rw [this]; exact hx
theorem StepV.cases {D : Nat → Prop} {W : World} {ov mv : Value} {x : St} (h : StepV D W ov mv x) : ∃ A c B d, ov = .slice A x.ord.length c ∧ mv = .slice B x.mv.length d ∧ x.ord.length ≤ 9223372036854775807 ∧ x.mv.length ≤ 9223372036854775807 := by
  obtain ⟨A, c, e, h1, h2, _⟩ := h.1.form
  obtain ⟨B, d, e2, h3, h4, _⟩ := h.2.form
  exact ⟨A, c, B, d, e, e2, by omega, by omega⟩

set_option maxRecDepth 100000 in
set_option maxHeartbeats 8000000 in
theorem great_any (l : List St) (v : Value) (w : World) (hx : SrcS (Lt w.heap.size) w v l) : Calls Tryz.prog 19 #[v] w (Great l w) := by
  obtain ⟨A, c, rfl, a1, a2, a3⟩ := hx.form
  have HX := Lib.hid hx
  obtain ⟨n, hn⟩ : ∃ n, l.length = n := ⟨_, rfl⟩
  rw [hn] at a1 ⊢
  have HN := Lib.hid hn
  clear hx hn a3
  by_cases h1 : 100 < n
  · have h1' : (100 : Int) < (n : Int) := by omega
    clear h1
    go_enter Tryz.func19, Tryz.ntmps19
    go_wp2_with fail
    go_ret
    exact ⟨.inr rfl, Below.refl _ _⟩
  have h1' : ¬ (100 : Int) < (n : Int) := by omega
  have n100 : n ≤ 100 := by omega
  clear h1
  go_enter Tryz.func19, Tryz.ntmps19
  go_wp2_with fail
  go_loopw [3, 11] (fun s i wr => ∃ (j : Nat) (z : Int), j ≤ n ∧ i = .int .i64 j ∧ s = .int .i64 z ∧ 0 ≤ z ∧ z ≤ 4000 ∧ Hid (FewT l j) ∧ ∃ q, wr = w.drewN q) (fun _ i _ => n - (intOf i).toNat)
  case atStart => exact ⟨0, 0, Nat.zero_le _, rfl, rfl, by omega, by omega, Lib.hid (fun z hz => by simp at hz), 0, rfl⟩
  case round =>
    obtain ⟨j, z, hj, rfl, rfl, z0, z1, HF, q, rfl⟩ := hrel
    by_cases hlt : j < n
    · have hlt' : (j : Int) < (n : Int) := by omega
      have hj0 : (0 : Int) ≤ (j : Int) := by omega
      have hjl : j < l.length := by have := HN.out; omega
      obtain ⟨g, off, ov, mv, rfl, hg, hg2, ⟨q0, q1, q2, q3⟩, hS⟩ := HX.out.at_ (k := j) hjl
      obtain ⟨x, hz⟩ : ∃ x, l[j] = x := ⟨_, rfl⟩
      rw [hz] at hS
      obtain ⟨E, e, F, f, rfl, rfl, o1, m1⟩ := hS.cases
      obtain ⟨o, ho⟩ : ∃ o, x.ord.length = o := ⟨_, rfl⟩
      obtain ⟨m, hm⟩ : ∃ m, x.mv.length = m := ⟨_, rfl⟩
      rw [ho] at q2 o1
      rw [hm] at q3 m1
      have HZZ := Lib.hid hz
      have HS := Lib.hid hS.2
      have HO := Lib.hid ho
      have HM := Lib.hid hm
      clear hz hg2 hS hg q0 q1 ho hm
      by_cases hm60 : 60 < m
      · have hm60' : (60 : Int) < (m : Int) := by omega
        clear hm60
        go_wp2_with fail
        go_quiet (fail)
        go_wp2_with fail
        go_ret
        exact ⟨.inr rfl, below_drewN (Below.refl _ _) _⟩
      by_cases ho60 : 60 < o
      · have ho60' : (60 : Int) < (o : Int) := by omega
        have hm60' : ¬ (60 : Int) < (m : Int) := by omega
        clear hm60 ho60
        go_wp2_with fail
        go_quiet (fail)
        go_wp2_with fail
        go_ret
        exact ⟨.inr rfl, below_drewN (Below.refl _ _) _⟩
      have hm60' : ¬ (60 : Int) < (m : Int) := by omega
      have ho60' : ¬ (60 : Int) < (o : Int) := by omega
      have mm : m ≤ 60 := by omega
      have oo : o ≤ 60 := by omega
      have s1 : IntKind.i64.wrap (z + (m : Int)) = z + (m : Int) := IntWalk.i64_in _ (by omega)
      have s2 : IntKind.i64.wrap (z + (m : Int) + (o : Int)) = z + (m : Int) + (o : Int) := IntWalk.i64_in _ (by omega)
      by_cases h5 : 500 < z + (m : Int) + (o : Int)
      · clear hm60 ho60
        go_wp2_with fail
        go_quiet (fail)
        clear s1 s2
        go_wp2_with fail
        go_ret
        exact ⟨.inr rfl, below_drewN (Below.refl _ _) _⟩
      clear hm60 ho60
      go_wp2_with fail
      go_quiet (fail)
      clear s1 s2
      go_wp2_with fail
      go_loop [3, 55] (fun s i => ∃ (k : Nat) (y : Int), k ≤ m ∧ i = .int .i64 k ∧ s = .int .i64 y ∧ 0 ≤ y ∧ y ≤ 500 + 55 * (k : Int) ∧ Hid (∀ b ∈ x.mv.take k, b.b.length ≤ 1100)) (fun _ i => m - (intOf i).toNat)
      case atStart => exact ⟨0, z + (m : Int) + (o : Int), Nat.zero_le _, rfl, rfl, by omega, by omega, Lib.hid (fun z hz => by simp at hz)⟩
      case round =>
        obtain ⟨k, y, hk, rfl, rfl, y0, y1, HB⟩ := hrel
        by_cases hkm : k < m
        · have hkm' : (k : Int) < (m : Int) := by omega
          have hk0 : (0 : Int) ≤ (k : Int) := by omega
          have hkl : k < x.mv.length := by have := HM.out; omega
          obtain ⟨g2, off2, dv, rfl, hg, hg2, ⟨p0, p1, p2, p3⟩, hD⟩ := HS.out.at_ (k := k) hkl
          obtain ⟨G, gc, rfl, d1, d2, d3⟩ := hD.form
          obtain ⟨d, hd⟩ : ∃ d, (x.mv[k]).b.length = d := ⟨_, rfl⟩
          rw [hd] at d1 p3
          have HD := Lib.hid hd
          clear p0 p1 p2 hD hg hg2 d3 hd
          by_cases hd11 : 1100 < d
          · have hd' : (1100 : Int) < (d : Int) := by omega
            go_wp2_with fail
            go_ret
            exact ⟨.inr rfl, below_drewN (Below.refl _ _) _⟩
          · have hd' : ¬ (1100 : Int) < (d : Int) := by omega
            have HB2 : Hid (∀ b ∈ x.mv.take (k + 1), b.b.length ≤ 1100) := Lib.hid (take_all' hkl HB.out (by rw [HD.out]; omega))
            go_wp2_with fail
            go_round
            case rel => exact ⟨k + 1, _, by omega, by go_num, rfl, by omega, by omega, HB2⟩
            case measure => simp [intOf]; omega
        · obtain rfl : k = m := by omega
          have hkm' : ¬ (k : Int) < (k : Int) := by omega
          have HF2 : Hid (FewT l (j + 1)) := Lib.hid (take_all' hjl HF.out (by rw [HZZ.out]; exact ⟨by have := HM.out; omega, by have := HO.out; omega, by have := HB.out; rwa [List.take_of_length_le (by have := HM.out; omega)] at this⟩))
          go_wp2_with fail
          go_roundw
          case rel => exact ⟨j + 1, y, by omega, by go_num, rfl, by omega, by omega, HF2, q + nq, by simp [World.drewN]⟩
          case measure => simp [intOf]; omega
    · obtain rfl : j = n := by omega
      have hlt' : ¬ (j : Int) < (j : Int) := by omega
      have HF2 : Hid (Few l) := Lib.hid ⟨by have := HN.out; omega, by have := HF.out; unfold FewT at this; rwa [List.take_of_length_le (by have := HN.out; omega)] at this⟩
      go_wp2_with fail
      go_ret
      exact ⟨.inl ⟨rfl, HF2.out⟩, below_drewN (Below.refl _ _) _⟩
end Go.Proofs.YtlephnfepofbbaaGreatDoor
