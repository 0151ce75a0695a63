/-
  Two rows of the same strings are the same.
-/
import Derived.Test.YtlephnfepofbbaaGreatDoorMtImg
namespace Go.Proofs.YtlephnfepofbbaaGreatDoor
open Go.RowKit Go.Shelf Go.Maps Go.ChangeMaps

theorem RS.at_ {w : World} {B : Nat} {v : Value} {xs : List ByteArray} (h : RS.own w B v xs) : ∃ A c, v = .slice A xs.length c ∧ xs.length ≤ c ∧ ∀ i (hi : i < xs.length), ∃ g, A = some ⟨g, 0, none⟩ ∧ g < w.heap.size ∧ w.cell? ⟨g, i, none⟩ = some (.string xs[i]) := by
  rcases RowK.own_form h with ⟨rfl, rfl⟩ | ⟨g, c, rfl, hc, hg, _, hl⟩
  · exact ⟨none, 0, rfl, Nat.le_refl _, fun i hi => by simp at hi⟩
  · rcases h.2 with ⟨e, _⟩ | ⟨g', cap, cur, e, _, _, hcap, _⟩
    · cases e
    · cases e
      refine ⟨_, _, rfl, hcap, fun i hi => ⟨g, rfl, hg, ?_⟩⟩
      have := hl i xs[i] (List.getElem?_eq_getElem hi) 0 (by decide)
      have e : (0 + (i * RS.n + 0)) = i := by show 0 + (i * 1 + 0) = i; omega
      rw [e] at this
      exact this
set_option maxRecDepth 100000 in
set_option maxHeartbeats 4000000 in
theorem same_rows {w : World} {B1 B2 : Nat} {v u : Value} {xs : List ByteArray} (h1 : RS.own w B1 v xs) (h2 : RS.own w B2 u xs) (hl : xs.length ≤ 1000) : Calls Tryz.prog 22 #[v, u] w fun e w' => e = .returned (.bool true) ∧ ∃ q, w' = w.drewN q := by
  obtain ⟨A, c, rfl, hc1, hA⟩ := RS.at_ h1
  obtain ⟨A2, c2, rfl, hc2, hA2⟩ := RS.at_ h2
  obtain ⟨n, hn⟩ : ∃ n, n = xs.length := ⟨_, rfl⟩
  have HA := Lib.hid (show ∀ i, i < n → ∃ g g2 s, A = some ⟨g, 0, none⟩ ∧ A2 = some ⟨g2, 0, none⟩ ∧ g < w.heap.size ∧ g2 < w.heap.size ∧ w.cell? ⟨g, i, none⟩ = some (.string s) ∧ w.cell? ⟨g2, i, none⟩ = some (.string s) from fun i hi => by
    obtain ⟨g, e1, l1, k1⟩ := hA i (hn ▸ hi)
    obtain ⟨g2, e2, l2, k2⟩ := hA2 i (hn ▸ hi)
    exact ⟨g, g2, _, e1, e2, l1, l2, k1, k2⟩)
  rw [← hn] at hc1 hc2 hl ⊢
  clear h1 h2 hA hA2 hn
  go_enter Tryz.func22, Tryz.ntmps22
  go_wp2_with fail
  go_loopw [5] (fun i wr => ∃ j : Nat, i = .int .i64 (j : Int) ∧ j ≤ n ∧ ∃ q, wr = w.drewN q) (fun i _ => n - (intOf i).toNat)
  case atStart => exact ⟨0, rfl, Nat.zero_le _, 0, rfl⟩
  case round =>
    obtain ⟨j, rfl, hj, q, rfl⟩ := hrel
    by_cases hlt : j < n
    · obtain ⟨g, g2, s, rfl, rfl, l1, l2, k1, k2⟩ := HA.out j hlt
      have b0 : (0 : Int) ≤ (j : Int) := by omega
      have b1 : (j : Int) < (n : Int) := by omega
      have hw : wrap64 ((j : Int) + 1) = (j : Int) + 1 := by unfold wrap64; omega
      go_wp2_with fail
      go_quiet (fail)
      go_wp2_with fail
      go_roundw
      case rel => exact ⟨j + 1, by go_num, by omega, _, rfl⟩
      case measure => simp [intOf]; omega
    · obtain rfl : j = n := by omega
      have b1 : ¬ (j : Int) < (j : Int) := by omega
      go_wp2_with fail
      go_ret
      exact ⟨rfl, q, rfl⟩
end Go.Proofs.YtlephnfepofbbaaGreatDoor
