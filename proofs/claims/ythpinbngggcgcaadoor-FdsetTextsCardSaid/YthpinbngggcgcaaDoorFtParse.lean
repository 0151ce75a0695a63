/-
  The document's Parse: what it gathers, and what it returns.
-/
import Derived.Test.YthpinbngggcgcaaDoorFtText
import Derived.Test.YthpinbngggcgcaaDoorFtRuns
import Derived.Test.YthpinbngggcgcaaDoorOfOne
namespace Go.Proofs.YthpinbngggcgcaaDoor
open Go.RowKit

theorem rtext_nil (v : Value) (w : World) (hv : IsL w v []) :
    Calls Tryd.prog 25 #[v] w fun e w' => e = .returned (.string ⟨#[110, 111, 110, 101]⟩) ∧ Below w.heap.size w w' := by
  obtain ⟨a, cap, rfl, hm, _, _⟩ := hv
  clear hm
  go_enter Tryd.func25, Tryd.ntmps25
  go_wp2_with fail
  go_ret
  exact ⟨rfl, Below.refl _ _⟩

/-- What it returns. -/
def RefP (w : World) (t : ByteArray) (e : Ending) (w' : World) : Prop :=
  Below w.heap.size w w' ∧ ((t.data.toList = [110, 111, 110, 101] ∧ e = .returned (.tuple #[.slice none 0 0, .int .i64 0])) ∨
    (t.data.toList ≠ [110, 111, 110, 101] ∧ parseR t.data.toList = none ∧ e = .returned (.tuple #[.slice none 0 0, .int .i64 11])) ∨
    (t.data.toList ≠ [110, 111, 110, 101] ∧ ∃ rs v, parseR t.data.toList = some rs ∧ e = .returned (.tuple #[v, .int .i64 0]) ∧ IsL w' v (flatR rs)))

theorem step_digit (s : Sc) (c : UInt8) (m : Nat) (hm : c.toNat = m) (h0 : 48 ≤ m) (h1 : m ≤ 57) : stepS s c = ⟨s.l, if 64 ≤ 10 * s.n + ((m : Int) - 48) then 64 else 10 * s.n + ((m : Int) - 48), s.f⟩ := by
  unfold stepS digS
  rw [hm, if_pos ⟨show (48 : UInt8).toNat ≤ c.toNat by rw [hm]; exact h0, show c.toNat ≤ (57 : UInt8).toNat by rw [hm]; exact h1⟩]
theorem step_dash (s : Sc) (c : UInt8) (hm : c.toNat = 45) : stepS s c = ⟨s.l, 0, s.n⟩ := by
  obtain rfl : c = 45 := UInt8.toNat_inj.1 hm
  unfold stepS
  rw [if_neg (by decide), if_pos rfl]
theorem step_other (s : Sc) (c : UInt8) (m : Nat) (hm : c.toNat = m) (h0 : ¬ (48 ≤ m ∧ m ≤ 57)) (h1 : m ≠ 45) : stepS s c = endS s := by
  unfold stepS
  rw [if_neg, if_neg]
  · rintro rfl; exact h1 hm.symm
  · rintro ⟨ha, hb⟩
    have ha' : 48 ≤ c.toNat := ha
    have hb' : c.toNat ≤ 57 := hb
    exact h0 (by omega)

set_option maxRecDepth 100000 in
set_option maxHeartbeats 4000000 in
theorem rparse_any (t : ByteArray) (ht : t.size ≤ 1000) (w : World) : Calls Tryd.prog 23 #[.string t] w (RefP w t) := by
  obtain ⟨i0, hi, hz0, hz1, hz2⟩ := info_parts infoInt
  have hlen : t.data.toList.length = t.size := Array.length_toList
  have hl : ¬ (1000 : Int) < (t.size : Int) := by omega
  go_enter Tryd.func23, Tryd.ntmps23
  go_wp2_with fail
  go_loopw [4, 5, 6, 7] (fun l n f i wr => ∃ j : Nat, j ≤ t.size + 1 ∧ i = .int .i64 (j : Int) ∧ n = .int .i64 (scan t.data.toList j).n ∧ f = .int .i64 (scan t.data.toList j).f ∧
    wr.ownsRow w.heap.size 3 1 l (scan t.data.toList j).l.length ((scan t.data.toList j).l.map (Value.int .i64)) ∧ Below w.heap.size w wr) (fun _ _ _ i _ => t.size + 1 - (intOf i).toNat)
  case atStart => exact ⟨0, by omega, rfl, by rw [scan_zero], by rw [scan_zero], by rw [scan_zero]; exact World.ownsRow_nil _ _ _ _, Below.refl _ _⟩
  case round =>
    obtain ⟨j, hj, rfl, rfl, rfl, hown, hbw⟩ := hrel
    have hok := scan_ok t.data.toList j (by omega)
    obtain ⟨s, hs⟩ : ∃ s, scan t.data.toList j = s := ⟨_, rfl⟩
    rw [hs] at hok hown
    obtain ⟨l, z, f⟩ := s
    obtain ⟨k1, ⟨k2, k3⟩, ⟨k4, k5⟩, k6⟩ := hok
    simp only [] at k1 k2 k3 k4 k5 k6 hown
    have HS := Lib.hid hs
    have HOWN := Lib.hid hown
    have HB := Lib.hid hbw
    have HK6 := Lib.hid k6
    have hsz : w.heap.size ≤ wr.heap.size := hbw.size
    simp only [hs]
    clear hs hown hbw k6
    by_cases hjt : j ≤ t.size
    · have a0 : (j : Int) ≤ (t.size : Int) := by omega
      have a1 : IntKind.i64.wrap ((j : Int) + 1) = (j : Int) + 1 := IntWalk.i64_in _ (by omega)
      have b0 : (0 : Int) ≤ (j : Int) := by omega
      by_cases hlt : j < t.size
      · have b1 : (j : Int) < (t.size : Int) := by omega
        obtain ⟨c, hc⟩ : ∃ c, t[j]'hlt = c := ⟨_, rfl⟩
        obtain ⟨m, hm⟩ : ∃ m, c.toNat = m := ⟨_, rfl⟩
        have hcl : t.data.toList[j]'(by omega) = c := by rw [← hc]; simp; rfl
        have hst := scan_step t.data.toList j (by omega)
        rw [HS.out, hcl] at hst
        have hm2 : m < 256 := by rw [← hm]; exact UInt8.toNat_lt c
        have HST := Lib.hid hst
        have HM := Lib.hid hm
        clear hst hcl
        by_cases hd : 48 ≤ m ∧ m ≤ 57
        · have c0 : (48 : Int) ≤ (m : Int) := by omega
          have c1 : (m : Int) ≤ 57 := by omega
          have c2 : IntKind.u8.wrap ((m : Int) - 48) = (m : Int) - 48 := IntWalk.u8_in _ (by omega)
          have c3 : IntKind.i64.wrap ((m : Int) - 48) = (m : Int) - 48 := IntWalk.i64_in _ (by omega)
          have c4 : IntKind.i64.wrap (10 * z) = 10 * z := IntWalk.i64_in _ (by omega)
          have c5 : IntKind.i64.wrap (10 * z + ((m : Int) - 48)) = 10 * z + ((m : Int) - 48) := IntWalk.i64_in _ (by omega)
          clear hd
          by_cases hq : 64 ≤ 10 * z + ((m : Int) - 48)
          · have HE2 : Hid (scan t.data.toList (j + 1) = ⟨l, 64, f⟩) := Lib.hid (by rw [HST.out, step_digit _ c m HM.out (by omega) (by omega)]; simp only []; rw [if_pos hq])
            go_wp2_with fail
            exact ⟨⟨j + 1, by omega, by go_num, by rw [HE2.out], by rw [HE2.out], by rw [HE2.out]; exact HOWN.out, HB.out⟩, by simp [intOf]; omega⟩
          · have HE2 : Hid (scan t.data.toList (j + 1) = ⟨l, 10 * z + ((m : Int) - 48), f⟩) := Lib.hid (by rw [HST.out, step_digit _ c m HM.out (by omega) (by omega)]; simp only []; rw [if_neg hq])
            go_wp2_with fail
            exact ⟨⟨j + 1, by omega, by go_num, by rw [HE2.out], by rw [HE2.out], by rw [HE2.out]; exact HOWN.out, HB.out⟩, by simp [intOf]; omega⟩
        · by_cases h45 : m = 45
          · subst h45
            have HE2 : Hid (scan t.data.toList (j + 1) = ⟨l, 0, z⟩) := Lib.hid (by rw [HST.out, step_dash _ c HM.out])
            go_wp2_with fail
            exact ⟨⟨j + 1, by omega, by go_num, by rw [HE2.out], by rw [HE2.out], by rw [HE2.out]; exact HOWN.out, HB.out⟩, by simp [intOf]; omega⟩
          · have HEND : Hid (scan t.data.toList (j + 1) = endS ⟨l, z, f⟩) := Lib.hid (by rw [HST.out, step_other _ c m HM.out hd h45])
            have e45 : ((m : Int) == 45) = false := by rw [beq_eq_false_iff_ne]; omega
            by_cases g48 : 48 ≤ m
            · have c0 : (48 : Int) ≤ (m : Int) := by omega
              have c1 : ¬ (m : Int) ≤ 57 := by omega
              clear hd h45
              by_cases hf : f < 0
              · have d0 : decide (f < 0) = true := by simpa using hf
                have HE2 : Hid (scan t.data.toList (j + 1) = ⟨l ++ rng z z, 0, -1⟩) := Lib.hid (by rw [HEND.out]; unfold endS; simp only []; rw [if_pos hf])
                have HG : Hid (0 ≤ z ∧ z ≤ 64) := Lib.hid (by omega)
                go_wp2_with fail
                go_loopw [4, 8] (fun lv k wq => ∃ p : Int, z ≤ p ∧ p ≤ 64 ∧ (p = z ∨ p ≤ z + 1) ∧ k = .int .i64 p ∧ wq.ownsRow w.heap.size 3 1 lv (l ++ rng z (p - 1)).length ((l ++ rng z (p - 1)).map (Value.int .i64)) ∧ Below w.heap.size w wq) (fun _ k _ => 65 - (intOf k).toNat)
                case atStart => exact ⟨z, by omega, by omega, .inl rfl, rfl, by rw [rng_none, List.append_nil]; exact HOWN.out, HB.out⟩
                case round =>
                  obtain ⟨p, p1, p2, p3, rfl, hown2, hb2⟩ := hrel
                  have g0 := HG.out.1
                  have hsz2 : w.heap.size ≤ wr.heap.size := hb2.size
                  have hle : (l ++ rng z (p - 1)).length ≤ 64 * j + 64 := by have := rng_le z (p - 1); rw [List.length_append]; omega
                  obtain ⟨L, hL⟩ : ∃ L, l ++ rng z (p - 1) = L := ⟨_, rfl⟩
                  rw [hL] at hown2 hle
                  have HL := Lib.hid hL
                  clear hL
                  by_cases q0 : p ≤ z
                  · by_cases q1 : p < 64
                    · have q2 : IntKind.i64.wrap (p + 1) = p + 1 := IntWalk.i64_in _ (by omega)
                      go_wp2_with (at_builtin; refine wpList_append_own _ rfl _ _ 22 rfl w.heap.size 3 i0 (.int .i64 0) 1 8 Tryd.underlying22 hi hz0 hz1 hz2 rfl (by decide) _ _ _ rfl (hown2.alloc _) ⟨World.heap _ |>.size, 0, none⟩ 1 1 [.int .i64 p] rfl rfl (cell_one_new _ _ _) (by simp [Value.oneCell']) (by unfold maxLen; omega) (by omega) (by simp; omega) ?_; intro v' w4 hown' hgrow _)
                      go_roundw
                      case rel => exact ⟨p + 1, by omega, by omega, .inr (by omega), by go_num, by rw [show p + 1 - 1 = p by omega, ← rng_next z p g0 p1 q1, ← List.append_assoc, HL.out]; simpa using hown', (hb2.alloc hsz2 _).grown hgrow (by simp; omega) (fun i hi => (hown2.lt i hi).1)⟩
                      case measure => simp [intOf]; omega
                    · have HF := Lib.hid (rng_full z p z (by omega) p3)
                      go_wp2_with fail
                      go_roundw
                      case rel => exact ⟨j + 1, by omega, by go_num, by rw [HE2.out], by rw [HE2.out], by rw [HE2.out, ← HF.out]; simp only []; rw [HL.out]; exact hown2, hb2⟩
                      case measure => simp [intOf]; omega
                  · have HF := Lib.hid (rng_full z p z (by omega) p3)
                    go_wp2_with fail
                    go_roundw
                    case rel => exact ⟨j + 1, by omega, by go_num, by rw [HE2.out], by rw [HE2.out], by rw [HE2.out, ← HF.out]; simp only []; rw [HL.out]; exact hown2, hb2⟩
                    case measure => simp [intOf]; omega
              · have d0 : decide (f < 0) = false := by simpa using hf
                have HE2 : Hid (scan t.data.toList (j + 1) = ⟨l ++ rng f z, 0, -1⟩) := Lib.hid (by rw [HEND.out]; unfold endS; simp only []; rw [if_neg hf])
                have HG : Hid (0 ≤ f ∧ f ≤ 64) := Lib.hid (by omega)
                go_wp2_with fail
                go_loopw [4, 8] (fun lv k wq => ∃ p : Int, f ≤ p ∧ p ≤ 64 ∧ (p = f ∨ p ≤ z + 1) ∧ k = .int .i64 p ∧ wq.ownsRow w.heap.size 3 1 lv (l ++ rng f (p - 1)).length ((l ++ rng f (p - 1)).map (Value.int .i64)) ∧ Below w.heap.size w wq) (fun _ k _ => 65 - (intOf k).toNat)
                case atStart => exact ⟨f, by omega, by omega, .inl rfl, rfl, by rw [rng_none, List.append_nil]; exact HOWN.out, HB.out⟩
                case round =>
                  obtain ⟨p, p1, p2, p3, rfl, hown2, hb2⟩ := hrel
                  have g0 := HG.out.1
                  have hsz2 : w.heap.size ≤ wr.heap.size := hb2.size
                  have hle : (l ++ rng f (p - 1)).length ≤ 64 * j + 64 := by have := rng_le f (p - 1); rw [List.length_append]; omega
                  obtain ⟨L, hL⟩ : ∃ L, l ++ rng f (p - 1) = L := ⟨_, rfl⟩
                  rw [hL] at hown2 hle
                  have HL := Lib.hid hL
                  clear hL
                  by_cases q0 : p ≤ z
                  · by_cases q1 : p < 64
                    · have q2 : IntKind.i64.wrap (p + 1) = p + 1 := IntWalk.i64_in _ (by omega)
                      go_wp2_with (at_builtin; refine wpList_append_own _ rfl _ _ 22 rfl w.heap.size 3 i0 (.int .i64 0) 1 8 Tryd.underlying22 hi hz0 hz1 hz2 rfl (by decide) _ _ _ rfl (hown2.alloc _) ⟨World.heap _ |>.size, 0, none⟩ 1 1 [.int .i64 p] rfl rfl (cell_one_new _ _ _) (by simp [Value.oneCell']) (by unfold maxLen; omega) (by omega) (by simp; omega) ?_; intro v' w4 hown' hgrow _)
                      go_roundw
                      case rel => exact ⟨p + 1, by omega, by omega, .inr (by omega), by go_num, by rw [show p + 1 - 1 = p by omega, ← rng_next f p g0 p1 q1, ← List.append_assoc, HL.out]; simpa using hown', (hb2.alloc hsz2 _).grown hgrow (by simp; omega) (fun i hi => (hown2.lt i hi).1)⟩
                      case measure => simp [intOf]; omega
                    · have HF := Lib.hid (rng_full f p z (by omega) p3)
                      go_wp2_with fail
                      go_roundw
                      case rel => exact ⟨j + 1, by omega, by go_num, by rw [HE2.out], by rw [HE2.out], by rw [HE2.out, ← HF.out]; simp only []; rw [HL.out]; exact hown2, hb2⟩
                      case measure => simp [intOf]; omega
                  · have HF := Lib.hid (rng_full f p z (by omega) p3)
                    go_wp2_with fail
                    go_roundw
                    case rel => exact ⟨j + 1, by omega, by go_num, by rw [HE2.out], by rw [HE2.out], by rw [HE2.out, ← HF.out]; simp only []; rw [HL.out]; exact hown2, hb2⟩
                    case measure => simp [intOf]; omega
            · have c0 : ¬ (48 : Int) ≤ (m : Int) := by omega
              clear hd h45
              by_cases hf : f < 0
              · have d0 : decide (f < 0) = true := by simpa using hf
                have HE2 : Hid (scan t.data.toList (j + 1) = ⟨l ++ rng z z, 0, -1⟩) := Lib.hid (by rw [HEND.out]; unfold endS; simp only []; rw [if_pos hf])
                have HG : Hid (0 ≤ z ∧ z ≤ 64) := Lib.hid (by omega)
                go_wp2_with fail
                go_loopw [4, 8] (fun lv k wq => ∃ p : Int, z ≤ p ∧ p ≤ 64 ∧ (p = z ∨ p ≤ z + 1) ∧ k = .int .i64 p ∧ wq.ownsRow w.heap.size 3 1 lv (l ++ rng z (p - 1)).length ((l ++ rng z (p - 1)).map (Value.int .i64)) ∧ Below w.heap.size w wq) (fun _ k _ => 65 - (intOf k).toNat)
                case atStart => exact ⟨z, by omega, by omega, .inl rfl, rfl, by rw [rng_none, List.append_nil]; exact HOWN.out, HB.out⟩
                case round =>
                  obtain ⟨p, p1, p2, p3, rfl, hown2, hb2⟩ := hrel
                  have g0 := HG.out.1
                  have hsz2 : w.heap.size ≤ wr.heap.size := hb2.size
                  have hle : (l ++ rng z (p - 1)).length ≤ 64 * j + 64 := by have := rng_le z (p - 1); rw [List.length_append]; omega
                  obtain ⟨L, hL⟩ : ∃ L, l ++ rng z (p - 1) = L := ⟨_, rfl⟩
                  rw [hL] at hown2 hle
                  have HL := Lib.hid hL
                  clear hL
                  by_cases q0 : p ≤ z
                  · by_cases q1 : p < 64
                    · have q2 : IntKind.i64.wrap (p + 1) = p + 1 := IntWalk.i64_in _ (by omega)
                      go_wp2_with (at_builtin; refine wpList_append_own _ rfl _ _ 22 rfl w.heap.size 3 i0 (.int .i64 0) 1 8 Tryd.underlying22 hi hz0 hz1 hz2 rfl (by decide) _ _ _ rfl (hown2.alloc _) ⟨World.heap _ |>.size, 0, none⟩ 1 1 [.int .i64 p] rfl rfl (cell_one_new _ _ _) (by simp [Value.oneCell']) (by unfold maxLen; omega) (by omega) (by simp; omega) ?_; intro v' w4 hown' hgrow _)
                      go_roundw
                      case rel => exact ⟨p + 1, by omega, by omega, .inr (by omega), by go_num, by rw [show p + 1 - 1 = p by omega, ← rng_next z p g0 p1 q1, ← List.append_assoc, HL.out]; simpa using hown', (hb2.alloc hsz2 _).grown hgrow (by simp; omega) (fun i hi => (hown2.lt i hi).1)⟩
                      case measure => simp [intOf]; omega
                    · have HF := Lib.hid (rng_full z p z (by omega) p3)
                      go_wp2_with fail
                      go_roundw
                      case rel => exact ⟨j + 1, by omega, by go_num, by rw [HE2.out], by rw [HE2.out], by rw [HE2.out, ← HF.out]; simp only []; rw [HL.out]; exact hown2, hb2⟩
                      case measure => simp [intOf]; omega
                  · have HF := Lib.hid (rng_full z p z (by omega) p3)
                    go_wp2_with fail
                    go_roundw
                    case rel => exact ⟨j + 1, by omega, by go_num, by rw [HE2.out], by rw [HE2.out], by rw [HE2.out, ← HF.out]; simp only []; rw [HL.out]; exact hown2, hb2⟩
                    case measure => simp [intOf]; omega
              · have d0 : decide (f < 0) = false := by simpa using hf
                have HE2 : Hid (scan t.data.toList (j + 1) = ⟨l ++ rng f z, 0, -1⟩) := Lib.hid (by rw [HEND.out]; unfold endS; simp only []; rw [if_neg hf])
                have HG : Hid (0 ≤ f ∧ f ≤ 64) := Lib.hid (by omega)
                go_wp2_with fail
                go_loopw [4, 8] (fun lv k wq => ∃ p : Int, f ≤ p ∧ p ≤ 64 ∧ (p = f ∨ p ≤ z + 1) ∧ k = .int .i64 p ∧ wq.ownsRow w.heap.size 3 1 lv (l ++ rng f (p - 1)).length ((l ++ rng f (p - 1)).map (Value.int .i64)) ∧ Below w.heap.size w wq) (fun _ k _ => 65 - (intOf k).toNat)
                case atStart => exact ⟨f, by omega, by omega, .inl rfl, rfl, by rw [rng_none, List.append_nil]; exact HOWN.out, HB.out⟩
                case round =>
                  obtain ⟨p, p1, p2, p3, rfl, hown2, hb2⟩ := hrel
                  have g0 := HG.out.1
                  have hsz2 : w.heap.size ≤ wr.heap.size := hb2.size
                  have hle : (l ++ rng f (p - 1)).length ≤ 64 * j + 64 := by have := rng_le f (p - 1); rw [List.length_append]; omega
                  obtain ⟨L, hL⟩ : ∃ L, l ++ rng f (p - 1) = L := ⟨_, rfl⟩
                  rw [hL] at hown2 hle
                  have HL := Lib.hid hL
                  clear hL
                  by_cases q0 : p ≤ z
                  · by_cases q1 : p < 64
                    · have q2 : IntKind.i64.wrap (p + 1) = p + 1 := IntWalk.i64_in _ (by omega)
                      go_wp2_with (at_builtin; refine wpList_append_own _ rfl _ _ 22 rfl w.heap.size 3 i0 (.int .i64 0) 1 8 Tryd.underlying22 hi hz0 hz1 hz2 rfl (by decide) _ _ _ rfl (hown2.alloc _) ⟨World.heap _ |>.size, 0, none⟩ 1 1 [.int .i64 p] rfl rfl (cell_one_new _ _ _) (by simp [Value.oneCell']) (by unfold maxLen; omega) (by omega) (by simp; omega) ?_; intro v' w4 hown' hgrow _)
                      go_roundw
                      case rel => exact ⟨p + 1, by omega, by omega, .inr (by omega), by go_num, by rw [show p + 1 - 1 = p by omega, ← rng_next f p g0 p1 q1, ← List.append_assoc, HL.out]; simpa using hown', (hb2.alloc hsz2 _).grown hgrow (by simp; omega) (fun i hi => (hown2.lt i hi).1)⟩
                      case measure => simp [intOf]; omega
                    · have HF := Lib.hid (rng_full f p z (by omega) p3)
                      go_wp2_with fail
                      go_roundw
                      case rel => exact ⟨j + 1, by omega, by go_num, by rw [HE2.out], by rw [HE2.out], by rw [HE2.out, ← HF.out]; simp only []; rw [HL.out]; exact hown2, hb2⟩
                      case measure => simp [intOf]; omega
                  · have HF := Lib.hid (rng_full f p z (by omega) p3)
                    go_wp2_with fail
                    go_roundw
                    case rel => exact ⟨j + 1, by omega, by go_num, by rw [HE2.out], by rw [HE2.out], by rw [HE2.out, ← HF.out]; simp only []; rw [HL.out]; exact hown2, hb2⟩
                    case measure => simp [intOf]; omega
      · have b1 : ¬ (j : Int) < (t.size : Int) := by omega
        have HEND : Hid (scan t.data.toList (j + 1) = endS ⟨l, z, f⟩) := Lib.hid (by
          obtain rfl : j = t.data.toList.length := by omega
          rw [scan_end, HS.out])
        by_cases hf : f < 0
        · have d0 : decide (f < 0) = true := by simpa using hf
          have HE2 : Hid (scan t.data.toList (j + 1) = ⟨l ++ rng z z, 0, -1⟩) := Lib.hid (by rw [HEND.out]; unfold endS; simp only []; rw [if_pos hf])
          have HG : Hid (0 ≤ z ∧ z ≤ 64) := Lib.hid (by omega)
          go_wp2_with fail
          go_loopw [4, 8] (fun lv k wq => ∃ p : Int, z ≤ p ∧ p ≤ 64 ∧ (p = z ∨ p ≤ z + 1) ∧ k = .int .i64 p ∧ wq.ownsRow w.heap.size 3 1 lv (l ++ rng z (p - 1)).length ((l ++ rng z (p - 1)).map (Value.int .i64)) ∧ Below w.heap.size w wq) (fun _ k _ => 65 - (intOf k).toNat)
          case atStart => exact ⟨z, by omega, by omega, .inl rfl, rfl, by rw [rng_none, List.append_nil]; exact HOWN.out, HB.out⟩
          case round =>
            obtain ⟨p, p1, p2, p3, rfl, hown2, hb2⟩ := hrel
            have g0 := HG.out.1
            have hsz2 : w.heap.size ≤ wr.heap.size := hb2.size
            have hle : (l ++ rng z (p - 1)).length ≤ 64 * j + 64 := by have := rng_le z (p - 1); rw [List.length_append]; omega
            obtain ⟨L, hL⟩ : ∃ L, l ++ rng z (p - 1) = L := ⟨_, rfl⟩
            rw [hL] at hown2 hle
            have HL := Lib.hid hL
            clear hL
            by_cases q0 : p ≤ z
            · by_cases q1 : p < 64
              · have q2 : IntKind.i64.wrap (p + 1) = p + 1 := IntWalk.i64_in _ (by omega)
                go_wp2_with (at_builtin; refine wpList_append_own _ rfl _ _ 22 rfl w.heap.size 3 i0 (.int .i64 0) 1 8 Tryd.underlying22 hi hz0 hz1 hz2 rfl (by decide) _ _ _ rfl (hown2.alloc _) ⟨World.heap _ |>.size, 0, none⟩ 1 1 [.int .i64 p] rfl rfl (cell_one_new _ _ _) (by simp [Value.oneCell']) (by unfold maxLen; omega) (by omega) (by simp; omega) ?_; intro v' w4 hown' hgrow _)
                go_roundw
                case rel => exact ⟨p + 1, by omega, by omega, .inr (by omega), by go_num, by rw [show p + 1 - 1 = p by omega, ← rng_next z p g0 p1 q1, ← List.append_assoc, HL.out]; simpa using hown', (hb2.alloc hsz2 _).grown hgrow (by simp; omega) (fun i hi => (hown2.lt i hi).1)⟩
                case measure => simp [intOf]; omega
              · have HF := Lib.hid (rng_full z p z (by omega) p3)
                go_wp2_with fail
                go_roundw
                case rel => exact ⟨j + 1, by omega, by go_num, by rw [HE2.out], by rw [HE2.out], by rw [HE2.out, ← HF.out]; simp only []; rw [HL.out]; exact hown2, hb2⟩
                case measure => simp [intOf]; omega
            · have HF := Lib.hid (rng_full z p z (by omega) p3)
              go_wp2_with fail
              go_roundw
              case rel => exact ⟨j + 1, by omega, by go_num, by rw [HE2.out], by rw [HE2.out], by rw [HE2.out, ← HF.out]; simp only []; rw [HL.out]; exact hown2, hb2⟩
              case measure => simp [intOf]; omega
        · have d0 : decide (f < 0) = false := by simpa using hf
          have HE2 : Hid (scan t.data.toList (j + 1) = ⟨l ++ rng f z, 0, -1⟩) := Lib.hid (by rw [HEND.out]; unfold endS; simp only []; rw [if_neg hf])
          have HG : Hid (0 ≤ f ∧ f ≤ 64) := Lib.hid (by omega)
          go_wp2_with fail
          go_loopw [4, 8] (fun lv k wq => ∃ p : Int, f ≤ p ∧ p ≤ 64 ∧ (p = f ∨ p ≤ z + 1) ∧ k = .int .i64 p ∧ wq.ownsRow w.heap.size 3 1 lv (l ++ rng f (p - 1)).length ((l ++ rng f (p - 1)).map (Value.int .i64)) ∧ Below w.heap.size w wq) (fun _ k _ => 65 - (intOf k).toNat)
          case atStart => exact ⟨f, by omega, by omega, .inl rfl, rfl, by rw [rng_none, List.append_nil]; exact HOWN.out, HB.out⟩
          case round =>
            obtain ⟨p, p1, p2, p3, rfl, hown2, hb2⟩ := hrel
            have g0 := HG.out.1
            have hsz2 : w.heap.size ≤ wr.heap.size := hb2.size
            have hle : (l ++ rng f (p - 1)).length ≤ 64 * j + 64 := by have := rng_le f (p - 1); rw [List.length_append]; omega
            obtain ⟨L, hL⟩ : ∃ L, l ++ rng f (p - 1) = L := ⟨_, rfl⟩
            rw [hL] at hown2 hle
            have HL := Lib.hid hL
            clear hL
            by_cases q0 : p ≤ z
            · by_cases q1 : p < 64
              · have q2 : IntKind.i64.wrap (p + 1) = p + 1 := IntWalk.i64_in _ (by omega)
                go_wp2_with (at_builtin; refine wpList_append_own _ rfl _ _ 22 rfl w.heap.size 3 i0 (.int .i64 0) 1 8 Tryd.underlying22 hi hz0 hz1 hz2 rfl (by decide) _ _ _ rfl (hown2.alloc _) ⟨World.heap _ |>.size, 0, none⟩ 1 1 [.int .i64 p] rfl rfl (cell_one_new _ _ _) (by simp [Value.oneCell']) (by unfold maxLen; omega) (by omega) (by simp; omega) ?_; intro v' w4 hown' hgrow _)
                go_roundw
                case rel => exact ⟨p + 1, by omega, by omega, .inr (by omega), by go_num, by rw [show p + 1 - 1 = p by omega, ← rng_next f p g0 p1 q1, ← List.append_assoc, HL.out]; simpa using hown', (hb2.alloc hsz2 _).grown hgrow (by simp; omega) (fun i hi => (hown2.lt i hi).1)⟩
                case measure => simp [intOf]; omega
              · have HF := Lib.hid (rng_full f p z (by omega) p3)
                go_wp2_with fail
                go_roundw
                case rel => exact ⟨j + 1, by omega, by go_num, by rw [HE2.out], by rw [HE2.out], by rw [HE2.out, ← HF.out]; simp only []; rw [HL.out]; exact hown2, hb2⟩
                case measure => simp [intOf]; omega
            · have HF := Lib.hid (rng_full f p z (by omega) p3)
              go_wp2_with fail
              go_roundw
              case rel => exact ⟨j + 1, by omega, by go_num, by rw [HE2.out], by rw [HE2.out], by rw [HE2.out, ← HF.out]; simp only []; rw [HL.out]; exact hown2, hb2⟩
              case measure => simp [intOf]; omega
    · have a0 : ¬ (j : Int) ≤ (t.size : Int) := by omega
      go_wp2_with fail
      refine (of_ok l _ _ (isL_of_owns (by unfold maxLen; omega) HOWN.out) HK6.out).mono ?_
      rintro e w2 ⟨v, rfl, hv, hb2⟩
      have HLL : Hid (endS (runS t.data.toList ⟨[], 0, -1⟩) = ⟨l, z, f⟩) := Lib.hid (by rw [← scan_last, hlen, show t.size + 1 = j by omega]; exact HS.out)
      have B2 := Lib.hid (HB.out.trans (hb2.mono hsz))
      have HV := Lib.hid hv
      clear hv hb2
      have hTL : t.toList = t.data.toList := ByteArray.toList_eq _
      by_cases hn : t.data.toList = [110, 111, 110, 101]
      · have hq : (t.toList == [110, 111, 110, 101]) = true := by rw [hTL, hn]; rfl
        have HN := Lib.hid hn
        clear hn hTL
        go_wp2_with fail
        go_ret2
        exact ⟨B2.out, .inl ⟨HN.out, rfl⟩⟩
      · have hq : (t.toList == [110, 111, 110, 101]) = false := by rw [hTL, beq_eq_false_iff_ne]; exact hn
        have HN := Lib.hid hn
        have HTL := Lib.hid hTL
        clear hn hTL
        have hw2 : ∀ S : ByteArray, S ≠ t → (S.toList == t.toList) = false := fun S h => by
          rw [beq_eq_false_iff_ne, ByteArray.toList_eq, ByteArray.toList_eq]
          exact fun e => h (ba_ext e)
        have HW2 := Lib.hid hw2
        clear hw2
        cases hp : parseR t.data.toList with
        | some rs =>
          obtain ⟨h1, h2, h3⟩ := parseR_some _ _ hp
          have hl2 : l = flatR rs := by
            have e1 := HLL.out
            rw [h3, run_text rs [] h1 (fun x hx => (h2.all x hx).2)] at e1
            injection e1 with e2
            rw [← e2]; rfl
          have hout : upTo (fun n => inB (n : Int) l) 64 = flatR rs := flat_upTo rs h2 _ fun n hn => by
            rw [hl2]
            unfold inB
            rw [Bool.eq_iff_iff, decide_eq_true_eq]
            exact mem_flat rs n hn
          have hv2 := HV.out
          rw [hout] at hv2
          have HV2 := Lib.hid hv2
          have HP := Lib.hid hp
          have hteq : (⟨(textR rs).toArray⟩ : ByteArray) = t := ba_ext (by rw [h3])
          have HTE := Lib.hid hteq
          have H1 := Lib.hid h1
          have H2 := Lib.hid h2
          clear h1 h2 h3 hl2 hout hv2 hp hteq HV
          go_wp2_with fail
          refine (rtext_any rs H2.out H1.out v _ HV2.out).mono ?_
          rintro e w3 ⟨rfl, hb3⟩
          rw [HTE.out]
          have B3 := Lib.hid (B2.out.trans (hb3.mono B2.out.size))
          have HV3 := Lib.hid (HV2.out.below hb3)
          clear hb3
          go_wp2_with fail
          go_ret2
          exact ⟨B3.out, .inr (.inr ⟨HN.out, rs, v, HP.out, rfl, HV3.out⟩)⟩
        | none =>
          obtain ⟨rs, h2, h3⟩ := runs_of (fun n => inB (n : Int) l) 65 0 rfl (fun _ _ => trivial)
          have hout : upTo (fun n => inB (n : Int) l) 64 = flatR rs := flat_upTo rs h2 _ fun n hn => h3 n (Nat.zero_le _) hn
          have hv2 := HV.out
          rw [hout] at hv2
          have HV2 := Lib.hid hv2
          have HP := Lib.hid hp
          have H2 := Lib.hid h2
          clear h2 h3 hout hv2 hp HV
          have htx : Calls Tryd.prog 25 #[v] w2 fun e w' => ∃ S : ByteArray, S ≠ t ∧ e = .returned (.string S) ∧ Below w2.heap.size w2 w' := by
            by_cases hne : rs = []
            · subst hne
              exact (rtext_nil v w2 HV2.out).mono fun e w' h => ⟨_, fun e => HN.out (by rw [← e]), h⟩
            · refine (rtext_any rs H2.out hne v w2 HV2.out).mono fun e w' h => ⟨_, fun e => ?_, h⟩
              have e1 := HP.out
              rw [← e] at e1
              have e2 := parseR_mk rs hne H2.out
              have e3 : parseR (textR rs) = none := by simpa using e1
              rw [e3] at e2
              cases e2
          have HTX := Lib.hid htx
          clear htx
          go_wp2_with fail
          refine HTX.out.mono ?_
          rintro e w3 ⟨S, hS, rfl, hb3⟩
          have e5 := HW2.out S hS
          have B3 := Lib.hid (B2.out.trans (hb3.mono B2.out.size))
          clear hb3 hS
          go_wp2_with fail
          go_ret2
          exact ⟨B3.out, .inr (.inl ⟨HN.out, HP.out, rfl⟩)⟩
end Go.Proofs.YthpinbngggcgcaaDoor
