/-
  The contract of the document's own Of: of ints that are all from 0 to 63 it returns them, rising, each once, and 0; else nothing and 10.
-/
import Derived.Test.YthpinbngggcgcaaDoorRef
import Derived.Test.YthpinbngggcgcaaDoorOkI
namespace Go.Proofs.YthpinbngggcgcaaDoor
open Go.RowKit

set_option maxRecDepth 100000 in
set_option maxHeartbeats 2000000 in
theorem of_bad (zs : List Int) (v : Value) (w : World) (hv : IsL w v zs) (hbad : zs.all okI = false) :
    Calls Tryd.prog 12 #[v] w fun e w' => e = .returned (.tuple #[.slice none 0 0, .int .i64 10]) ∧ w' = w := by
  obtain ⟨a, cap, rfl, hm, _, h⟩ := hv
  unfold maxLen at hm
  have Hbad := Lib.hid hbad
  clear hbad
  go_enter Tryd.func12, Tryd.ntmps12
  go_wp2_with fail
  go_loop [5] (fun i => ∃ k : Nat, k ≤ zs.length ∧ i = .int .i64 k ∧ Hid ((zs.take k).all okI = true)) (fun i => zs.length - (intOf i).toNat)
  case atStart => exact ⟨0, Nat.zero_le _, rfl, by simp [Hid]⟩
  case round =>
    obtain ⟨k, hk, rfl, Hall⟩ := hrel
    by_cases hlt : k < zs.length
    · rcases h with h | ⟨b, off, rfl, hb, hc⟩
      · rw [h] at hlt; simp at hlt
      have hck := hc k hlt
      have hsu := okI_take zs k hlt
      rw [Hall.out, Bool.true_and] at hsu
      obtain ⟨x, hx⟩ : ∃ x, zs[k]?.getD 0 = x := ⟨_, rfl⟩
      rw [hx] at hsu hck
      have Hsu := Lib.hid hsu
      have Hc := Lib.hid hc
      clear hx hsu hc
      by_cases h0 : x < 0
      · have hd0 : decide (x < 0) = true := by simpa using h0
        go_wp2
        go_ret2
        exact ⟨rfl, rfl⟩
      · have hd0 : decide (x < 0) = false := by simpa using h0
        by_cases h1 : 64 ≤ x
        · have hd1 : decide (64 ≤ x) = true := by simpa using h1
          go_wp2
          go_ret2
          exact ⟨rfl, rfl⟩
        · have hd1 : decide (64 ≤ x) = false := by simpa using h1
          go_wp2
          go_round
          case rel => exact ⟨k + 1, by omega, by go_num, by unfold Hid; rw [Hsu.out]; simp [okI]; omega⟩
          case measure => simp [intOf]; omega
    · have h1 := Hall.out
      rw [List.take_of_length_le (by omega), Hbad.out] at h1
      cases h1

/-- What Of leaves where all are descriptors. -/
def OfOk (w : World) (zs : List Int) (e : Ending) (w' : World) : Prop := ∃ v, e = .returned (.tuple #[v, .int .i64 0]) ∧ IsL w' v (upTo (fun n => inB (n : Int) zs) 64) ∧ Below w.heap.size w w'

set_option maxRecDepth 100000 in
set_option maxHeartbeats 2000000 in
theorem of_ok (zs : List Int) (v : Value) (w : World) (hv : IsL w v zs) (hok : zs.all okI = true) :
    Calls Tryd.prog 12 #[v] w (OfOk w zs) := by
  obtain ⟨i0, hi, hz0, hz1, hz2⟩ := info_parts infoInt
  unfold OfOk
  obtain ⟨f, hf⟩ : ∃ f : Nat → Bool, (fun n : Nat => inB (n : Int) zs) = f := ⟨_, rfl⟩
  have hfn : ∀ n, f n = inB (n : Int) zs := fun n => by rw [← hf]
  rw [hf]
  have Hfn := Lib.hid hfn
  clear hf hfn
  have Hv := Lib.hid hv
  obtain ⟨a, cap, rfl, hm, _, h⟩ := hv
  unfold maxLen at hm
  have Hok := Lib.hid hok
  clear hok
  go_enter Tryd.func12, Tryd.ntmps12
  go_wp2_with fail
  go_loop [5] (fun i => ∃ k : Nat, k ≤ zs.length ∧ i = .int .i64 k) (fun i => zs.length - (intOf i).toNat)
  case atStart => exact ⟨0, Nat.zero_le _, rfl⟩
  case round =>
    obtain ⟨k, hk, rfl⟩ := hrel
    by_cases hlt : k < zs.length
    · rcases h with h | ⟨b, off, rfl, hb, hc⟩
      · rw [h] at hlt; simp at hlt
      have hck := hc k hlt
      have hx1 : okI (zs[k]?.getD 0) = true := List.all_eq_true.1 Hok.out _ (by rw [List.getElem?_eq_getElem hlt]; simp)
      obtain ⟨x, hx⟩ : ∃ x, zs[k]?.getD 0 = x := ⟨_, rfl⟩
      rw [hx] at hx1 hck
      have Hc := Lib.hid hc
      clear hx hc
      simp only [okI, Bool.and_eq_true, decide_eq_true_eq] at hx1
      obtain ⟨h0, h1⟩ := hx1
      have hd0 : decide (x < 0) = false := by simpa using h0
      have hd1 : decide (64 ≤ x) = false := by simpa using h1
      go_wp2
      go_round
      case rel => exact ⟨k + 1, by omega, by go_num⟩
      case measure => simp [intOf]; omega
    · clear h
      go_wp2_with fail
      go_loopw [4, 6] (fun o i wr => ∃ k : Nat, k ≤ 64 ∧ i = .int .i64 k ∧ wr.ownsRow w.heap.size 3 1 o (upTo f k).length ((upTo f k).map (Value.int .i64)) ∧ Below w.heap.size w wr)
        (fun _ i _ => 64 - (intOf i).toNat)
      case atStart => exact ⟨0, by omega, rfl, World.ownsRow_nil _ _ _ _, Below.refl _ _⟩
      case round =>
        obtain ⟨j, hj, rfl, hown, hbw⟩ := hrel
        have hsz : w.heap.size ≤ wr.heap.size := hbw.size
        by_cases hjt : j < 64
        · have hle := upTo_le f j
          have hv2 := Lib.hid (Hv.out.below hbw)
          cases hp : inB (j : Int) zs
          all_goals
            have hfj := Hfn.out j
            rw [hp] at hfj
            have Hp := Lib.hid hp
            have Hfj := Lib.hid hfj
            clear hp hfj
            go_wp2_with fail
            refine (in_val _ zs _ _ hv2.out _ Hp.out).mono ?_
            rintro e w2 ⟨rfl, rfl⟩
            go_wp2_with (at_builtin; refine wpList_append_own _ rfl _ _ 22 rfl w.heap.size 3 i0 (.int .i64 0) 1 8 Tryd.underlying22 hi hz0 hz1 hz2 rfl (by decide) _ _ _ rfl (hown.alloc _) ⟨World.heap _ |>.size, 0, none⟩ 1 1 [.int .i64 (j : Int)] rfl rfl (cell_one_new _ _ _) (by simp [Value.oneCell']) (by unfold maxLen; omega) (by omega) (by simp; omega) ?_; intro v' w4 hown' hgrow _)
            go_roundw
            case rel => first
              | exact ⟨j + 1, by omega, by go_num, by rw [upTo_miss _ _ (by rw [Hfj.out])]; exact hown, hbw⟩
              | exact ⟨j + 1, by omega, by go_num, by rw [upTo_hit _ _ (by rw [Hfj.out])]; simpa using hown', (hbw.alloc hsz _).grown hgrow (by simp; omega) (fun i hi => (hown.lt i hi).1)⟩
            case measure => simp [intOf]; omega
        · obtain rfl : j = 64 := by omega
          go_wp2
          go_ret2
          exact ⟨_, rfl, isL_of_owns (by have := upTo_le f 64; unfold maxLen; omega) hown, hbw⟩

theorem isL_nil (w : World) : IsL w (.slice none 0 0) [] := ⟨none, 0, rfl, by unfold maxLen; simp, fun _ => rfl, .inl rfl⟩
theorem memI_zero : memI 0 0 = [] := by
  unfold memI mem
  rw [List.map_eq_nil_iff, List.filter_eq_nil_iff]
  intro k _
  simp [hasB]

end Go.Proofs.YthpinbngggcgcaaDoor
