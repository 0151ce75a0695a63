/-
  The contracts of Least, beside the document's own: the least number of a slice, or Never; nothing is turned.
-/
import Derived.Test.YtaekaonelmiokaaTkLeaf
import Derived.LoopTactic
import Derived.Deep.LoopGhost
namespace Go.Proofs.Ytaekaonelmiokaa
open Go.RowKit

/-- The least one, or Never. -/
def minI (zs : List Int) : Int := zs.foldl (fun m x => if x < m then x else m) 18446744073709551615
theorem fold_min (zs : List Int) : ∀ m : Int, zs.foldl (fun m x => if x < m then x else m) m ≤ m ∧ (∀ x ∈ zs, zs.foldl (fun m x => if x < m then x else m) m ≤ x) ∧ (zs.foldl (fun m x => if x < m then x else m) m = m ∨ zs.foldl (fun m x => if x < m then x else m) m ∈ zs) := by
  induction zs with
  | nil => intro m; exact ⟨Int.le_refl _, fun _ h => (List.not_mem_nil h).elim, .inl rfl⟩
  | cons y ys ih =>
    intro m
    obtain ⟨h1, h2, h3⟩ := ih (if y < m then y else m)
    rw [List.foldl_cons]
    refine ⟨?_, ?_, ?_⟩
    · split at h1 <;> rename_i hc <;> simp only [hc, if_true, if_false] <;> omega
    · intro x hx
      rcases List.mem_cons.1 hx with rfl | hx
      · split at h1 <;> rename_i hc <;> simp only [hc, if_true, if_false] <;> omega
      · exact h2 x hx
    · rcases h3 with h3 | h3
      · by_cases hc : y < m
        · rw [if_pos hc] at h3 ⊢; exact .inr (List.mem_cons.2 (.inl h3))
        · rw [if_neg hc] at h3 ⊢; exact .inl h3
      · exact .inr (List.mem_cons_of_mem _ h3)
theorem minI_le (zs : List Int) (x : Int) (h : x ∈ zs) : minI zs ≤ x := (fold_min zs _).2.1 x h
theorem minI_u (zs : List Int) (h : ∀ x ∈ zs, U x) : U (minI zs) := by
  obtain ⟨h1, _, h3⟩ := fold_min zs 18446744073709551615
  rcases h3 with h3 | h3
  · unfold minI; rw [h3]; unfold U; omega
  · exact h _ h3
theorem minI_at (zs : List Int) (hu : ∀ x ∈ zs, U x) (k : Nat) (hk : k < zs.length) (h : ∀ j, j < zs.length → zs[k]?.getD 0 ≤ zs[j]?.getD 0) : minI zs = zs[k]?.getD 0 := by
  have hx : zs[k]?.getD 0 ∈ zs := by rw [List.getElem?_eq_getElem hk]; exact List.getElem_mem hk
  obtain ⟨h1, h2, h3⟩ := fold_min zs 18446744073709551615
  have ha := h2 _ hx
  have hb : zs[k]?.getD 0 ≤ minI zs := by
    rcases h3 with h3 | h3
    · unfold minI; rw [h3]; exact (hu _ hx).2
    · obtain ⟨j, hj, e⟩ := List.mem_iff_getElem.1 h3
      have := h j hj
      rw [List.getElem?_eq_getElem hj] at this
      unfold minI
      rw [← e]
      exact this
  unfold minI at hb ⊢
  omega
theorem minI_take (zs : List Int) (k : Nat) (hk : k < zs.length) : minI (zs.take (k + 1)) = if zs[k]?.getD 0 < minI (zs.take k) then zs[k]?.getD 0 else minI (zs.take k) := by
  unfold minI
  rw [List.take_add_one, List.getElem?_eq_getElem hk, Option.toList_some, List.foldl_append]
  rfl

/-- A slice value that reads as these numbers. -/
def IsU (w : World) (v : Value) (zs : List Int) : Prop :=
  ∃ a cap, v = .slice a zs.length cap ∧ zs.length ≤ cap ∧ cap ≤ maxLen ∧ (∀ x ∈ zs, U x) ∧ (zs = [] ∨ ∃ b off, a = some ⟨b, off, none⟩ ∧ ∀ j, j < zs.length → w.cell? ⟨b, off + j, none⟩ = some (.int .u64 (zs[j]?.getD 0)))

set_option maxHeartbeats 1000000 in
theorem rleast_any (zs : List Int) (v : Value) (w : World) (h : IsU w v zs) :
    Calls Try.prog 14 #[v] w fun e w' => e = .returned (.int .u64 (minI zs)) ∧ w = w' := by
  obtain ⟨a, cap, rfl, hlc, hm, _, h⟩ := h
  unfold maxLen at hm
  go_enter Try.func14, Try.ntmps14
  go_wp2_with fail
  go_loop [3, 4] (fun o i => ∃ k : Nat, k ≤ zs.length ∧ i = .int .i64 (k : Int) ∧ o = .int .u64 (minI (zs.take k))) (fun _ i => zs.length - (intOf i).toNat)
  case atStart => exact ⟨0, Nat.zero_le _, rfl, rfl⟩
  case round =>
    obtain ⟨k, hk, rfl, rfl⟩ := hrel
    by_cases hlt : k < zs.length
    · rcases h with h | ⟨b, off, rfl, hc⟩
      · rw [h] at hlt; simp at hlt
      · have hck := hc k hlt
        have hs := minI_take zs k hlt
        obtain ⟨x, hx⟩ : ∃ x, zs[k]?.getD 0 = x := ⟨_, rfl⟩
        obtain ⟨m, hmm⟩ : ∃ m, minI (zs.take k) = m := ⟨_, rfl⟩
        rw [hx, hmm] at hs
        rw [hx] at hck
        rw [hmm]
        clear hx hmm
        have Hs := Lib.hid hs
        have Hc := Lib.hid hc
        clear hs hc
        by_cases hxm : x < m
        · go_wp2_with fail
          go_round
          case rel => exact ⟨k + 1, by omega, by go_num, by rw [Hs.out, if_pos hxm]⟩
          case measure => simp [intOf]; omega
        · go_wp2_with fail
          go_round
          case rel => exact ⟨k + 1, by omega, by go_num, by rw [Hs.out, if_neg (by omega)]⟩
          case measure => simp [intOf]; omega
    · have H := Lib.hid (show zs.take k = zs from List.take_of_length_le (by omega))
      go_wp2_with fail
      go_ret
      exact ⟨ret_int (by rw [H.out]), rfl⟩

set_option maxHeartbeats 1000000 in
theorem least_any (zs : List Int) (v : Value) (w : World) (h : IsU w v zs) :
    Calls Try.prog 13 #[v] w fun e w' => e = .returned (.int .u64 (minI zs)) ∧ w = w' := by
  obtain ⟨a, cap, rfl, hlc, hm, hu, h⟩ := h
  unfold maxLen at hm
  obtain ⟨n, hn⟩ : ∃ n, zs.length = n := ⟨_, rfl⟩
  have Hn := Lib.hid hn
  rw [hn] at hlc ⊢
  have hz : n = 0 → zs = [] := fun h => List.length_eq_zero_iff.1 (hn.trans h)
  have hnz : zs = [] → n = 0 := fun h => by rw [← hn, h]; rfl
  have Hz := Lib.hid (And.intro hz hnz)
  have hc' : zs = [] ∨ ∃ b off, a = some ⟨b, off, none⟩ ∧ ∀ j, j < n → w.cell? ⟨b, off + j, none⟩ = some (.int .u64 (zs[j]?.getD 0)) := by rw [hn] at h; exact h
  clear hz hnz h hn
  have h := hc'
  clear hc'
  go_enter Try.func13, Try.ntmps13
  go_wp2_with fail
  go_step3
  go_wp2_with fail
  go_step3
  go_wp2_with fail
  go_loopg [3] (n + 1) (fun g i wr => ∃ k : Nat, g + k = n + 1 ∧ (k = 0 ∨ k < n) ∧ i = .int .i64 (k : Int) ∧ Hid (∀ j, j < k → zs[k]?.getD 0 ≤ zs[j]?.getD 0) ∧ wr = w)
  case atStart => exact ⟨0, rfl, .inl rfl, rfl, Lib.hid (fun j hj => absurd hj (by omega)), rfl⟩
  case round =>
    obtain ⟨k, hgk, hk0, rfl, hlow, rfl⟩ := hrel
    by_cases hlt : k < n
    · rcases h with h | ⟨b, off, rfl, hc⟩
      · have := Hz.out.2 h; omega
      · have hck := hc k hlt
        obtain ⟨x, hx⟩ : ∃ x, zs[k]?.getD 0 = x := ⟨_, rfl⟩
        rw [hx] at hck
        have hlow' := hlow.out
        rw [hx] at hlow'
        clear hlow
        have hlow := hlow'
        clear hlow'
        have Hx := Lib.hid hx
        have Hc := Lib.hid hc
        have Hlow := Lib.hid hlow
        have Hu := Lib.hid hu
        clear hx hc hlow hu
        clear hk0
        by_cases hcap : cap = k + 1
        · have e1 : n = k + 1 := by omega
          subst e1
          subst hcap
          obtain ⟨wo, rfl⟩ : ∃ wo : World, wo = wr := ⟨_, rfl⟩
          go_wp2_with fail
          go_loopg [3, 15] 1 (fun _ s3 i w2 => s3 = .int .i64 (k : Int) ∧ i = .int .i64 0 ∧ w2 = wo)
          case atStart => exact ⟨rfl, rfl, rfl⟩
          case round =>
            obtain ⟨rfl, rfl, rfl⟩ := hrel
            go_wp2_with fail
            rw [Exit.noGoto_ret]
            go_ret
            refine ⟨ret_int ?_, rfl⟩
            rw [minI_at zs Hu.out k (by rw [Hn.out]; omega) (fun j hj => by
              rw [Hn.out] at hj
              rw [Hx.out]
              by_cases hjk : j = k
              · subst hjk; rw [Hx.out]; exact Int.le_refl _
              · exact Hlow.out j (by omega)), Hx.out]
        · have c1 : k + 1 < cap := by omega
          obtain ⟨wo, rfl⟩ : ∃ wo : World, wo = wr := ⟨_, rfl⟩
          go_wp2_with fail
          go_loopg [3, 15] (n - k) (fun g s3 i w2 => ∃ j : Nat, g + j = n - k ∧ s3 = .int .i64 (k : Int) ∧ i = .int .i64 (j : Int) ∧ Hid (∀ t, t < j → x ≤ zs[k + 1 + t]?.getD 0) ∧ w2 = wo)
          case atStart => exact ⟨0, rfl, rfl, rfl, Lib.hid (fun j hj => absurd hj (by omega)), rfl⟩
          case round =>
            obtain ⟨j, hgj, rfl, rfl, hin, rfl⟩ := hrel
            by_cases hj : j < n - (k + 1)
            · have hcj := Hc.out (k + 1 + j) (by omega)
              obtain ⟨y, hy⟩ : ∃ y, zs[k + 1 + j]?.getD 0 = y := ⟨_, rfl⟩
              rw [hy] at hcj
              have Hy := Lib.hid hy
              clear hy
              rw [← Nat.add_assoc] at hcj
              by_cases hyx : y < x
              · go_wp2_with fail
                go_roundg (n - (k + j))
                case measure => omega
                case rel => exact ⟨k + 1 + j, by omega, .inr (by omega), by go_num, Lib.hid (fun t ht => by
                  rw [Hy.out]
                  by_cases h1 : t < k
                  · have := Hlow.out t h1; omega
                  · by_cases h2 : t = k
                    · subst h2; rw [Hx.out]; omega
                    · have := hin.out (t - (k + 1)) (by omega)
                      rw [show k + 1 + (t - (k + 1)) = t from by omega] at this
                      omega), rfl⟩
              · go_wp2_with fail
                go_roundg (n - k - (j + 1))
                case measure => omega
                case rel => exact ⟨j + 1, by omega, rfl, by go_num, Lib.hid (fun t ht => by
                  by_cases h1 : t < j
                  · exact hin.out t h1
                  · rw [show t = j from by omega, Hy.out]; omega), rfl⟩
            · go_wp2_with fail
              rw [Exit.noGoto_ret]
              go_ret
              refine ⟨ret_int ?_, rfl⟩
              rw [minI_at zs Hu.out k (by rw [Hn.out]; omega) (fun t ht => by
                rw [Hn.out] at ht
                rw [Hx.out]
                by_cases h1 : t < k
                · exact Hlow.out t h1
                · by_cases h2 : t = k
                  · subst h2; rw [Hx.out]; omega
                  · have := hin.out (t - (k + 1)) (by omega)
                    rw [show k + 1 + (t - (k + 1)) = t from by omega] at this
                    omega), Hx.out]
    · have h0 : k = 0 := by omega
      subst h0
      have hn0 : n = 0 := by omega
      have hz := Hz.out.1 hn0
      subst hz
      subst hn0
      go_wp2_with fail
      go_ret
      exact ⟨rfl, rfl⟩
end Go.Proofs.Ytaekaonelmiokaa
