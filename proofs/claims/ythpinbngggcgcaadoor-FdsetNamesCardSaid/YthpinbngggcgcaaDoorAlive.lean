/-
  The law's own function alive: the chapter's first examples hold: it returns true.
-/
import Derived.Test.YthpinbngggcgcaaDoorText
import Derived.Test.YthpinbngggcgcaaDoorBelow
import Derived.Test.YthpinbngggcgcaaDoorLen
import Derived.Test.YthpinbngggcgcaaDoorFof
namespace Go.Proofs.YthpinbngggcgcaaDoor
open Go.RowKit Go.Shelf

attribute [local go_sem] Oper.semAt_some

/-- The tables on which the answers lean lie as laid, and nothing is written into them. -/
def Here (w : World) : Prop := Tab w ∧ 0 < w.heap.size ∧ Pow w.heap.size w
theorem Here.below {w w' : World} (h : Here w) (hb : Below w.heap.size w w') : Here w' :=
  ⟨h.1.below h.2.1 hb, Nat.lt_of_lt_of_le h.2.1 hb.size, fun _ hx => h.2.2 _ (below_endL hb hx)⟩

theorem word_ext (x y : Nat) (hx : x < 4294967296) (hy : y < 4294967296) (h : ∀ k, k < 32 → x.testBit k = y.testBit k) : x = y := by
  apply Nat.eq_of_testBit_eq
  intro i
  by_cases hi : i < 32
  · exact h i hi
  · have e : (4294967296 : Nat) = 2 ^ 32 := by decide
    rw [Nat.testBit_lt_two_pow (Nat.lt_of_lt_of_le (e ▸ hx) (Nat.pow_le_pow_right (by omega) (by omega))), Nat.testBit_lt_two_pow (Nat.lt_of_lt_of_le (e ▸ hy) (Nat.pow_le_pow_right (by omega) (by omega)))]
/-- Two sets with the same descriptors have the same words. -/
theorem words_ext (a b c d : Nat) (ha : a < 4294967296) (hb : b < 4294967296) (hc : c < 4294967296) (hd : d < 4294967296) (h : ∀ k, k < 64 → hasB a b k = hasB c d k) : a = c ∧ b = d := by
  constructor
  · refine word_ext _ _ ha hc fun k hk => ?_
    have := h k (by omega)
    unfold hasB at this
    rwa [if_pos hk, if_pos hk] at this
  · refine word_ext _ _ hb hd fun k hk => ?_
    have := h (k + 32) (by omega)
    unfold hasB at this
    rwa [if_neg (by omega), if_neg (by omega), Nat.add_sub_cancel] at this

theorem alive_of (x y : Nat) (h : WordsOf [3, 1, 2, 9, 3] x y) : x = 526 ∧ y = 0 := by
  refine words_ext x y 526 0 h.1 h.2.1 (by omega) (by omega) fun k hk => ?_
  rw [h.2.2 k hk]
  revert k
  decide +kernel
theorem alive_next : nextI (memI 526 0) 4 = (9, true) := by decide +kernel
theorem alive_runs : runsB 526 0 (mem (first0 526) (first1 526 0)) = [49, 45, 51, 44, 57] := by decide +kernel
theorem alive_top : topI 526 0 = 9 := by decide +kernel
theorem alive_below : 526 &&& mask (3 : Int).toNat = 6 ∧ 0 &&& mask ((3 : Int).toNat - 32) = 0 := by decide +kernel
theorem alive_len : (memI 6 0).length = 2 := by decide +kernel

/-- What stays at hand. -/
def EnvA (w : World) (B : Nat) (W : World) : Prop := IsSet W B 526 0 ∧ Here W ∧ Below w.heap.size w W
theorem EnvA.below {w : World} {B : Nat} {W W' : World} (h : EnvA w B W) (hb : Below W.heap.size W W') : EnvA w B W' := ⟨h.1.below hb, h.2.1.below hb, below_endL h.2.2 hb⟩
theorem isL_five (w : World) : IsL (w.alloc (.cells #[.int .i64 3, .int .i64 1, .int .i64 2, .int .i64 9, .int .i64 3] 3)) (.slice (some ⟨w.heap.size, 0, none⟩) 5 5) [3, 1, 2, 9, 3] := by
  refine ⟨some ⟨w.heap.size, 0, none⟩, 5, rfl, by unfold maxLen; simp, (fun h => by cases h), .inr ⟨w.heap.size, 0, rfl, by simp, fun j hj => ?_⟩⟩
  rw [World.cell?_alloc_at _ _ _ _ rfl]
  have : j = 0 ∨ j = 1 ∨ j = 2 ∨ j = 3 ∨ j = 4 := by simp at hj; omega
  rcases this with rfl | rfl | rfl | rfl | rfl <;> rfl

set_option maxRecDepth 100000 in
set_option maxHeartbeats 4000000 in
theorem alive_any (w : World) (hh : Here w) : Calls Tryd.prog 27 #[] w fun e w' => e = .returned (.bool true) ∧ Below w.heap.size w w' := by
  have h5 := isL_five w
  have hb0 : Below w.heap.size w (w.alloc (.cells #[.int .i64 3, .int .i64 1, .int .i64 2, .int .i64 9, .int .i64 3] 3)) := (Below.refl _ _).alloc (Nat.le_refl _) _
  have hh0 := hh.below hb0
  go_enter Tryd.func27, Tryd.ntmps27
  go_wp2_with fail
  obtain ⟨Y, hY⟩ : ∃ Y, w.alloc (.cells #[.int .i64 3, .int .i64 1, .int .i64 2, .int .i64 9, .int .i64 3] 3) = Y := ⟨_, rfl⟩
  rw [hY] at h5 hb0 hh0 ⊢
  clear hY
  refine (fof_ok [3, 1, 2, 9, 3] _ _ h5 (by decide)).mono ?_
  rintro e w1 ⟨x, y, hxy, rfl, hb1⟩
  obtain ⟨rfl, rfl⟩ := alive_of x y hxy
  clear hxy h5
  have hal : Below w1.heap.size w1 (w1.alloc (.cells #[.int .u32 ((526 : Nat) : Int), .int .u32 ((0 : Nat) : Int)] 25)) := (Below.refl _ _).alloc (Nat.le_refl _) _
  have henv : EnvA w w1.heap.size (w1.alloc (.cells #[.int .u32 ((526 : Nat) : Int), .int .u32 ((0 : Nat) : Int)] 25)) := ⟨isSet_new w1 526 0, (hh0.below hb1).below hal, below_endL (below_endL hb0 hb1) hal⟩
  clear hh0 hb0 hal hb1
  obtain ⟨⟨m0, m1, _, _⟩, _⟩ := id henv
  have Henv := Lib.hid henv
  clear henv
  go_wp2_with fail
  refine (next_any 526 0 4 _ (by omega) (by omega) Henv.out.2.1.1 Henv.out.2.1.2.1).mono ?_
  rintro e w2 ⟨rfl, hb2⟩
  have henv2 := Henv.out.below hb2
  rw [alive_next]
  clear Henv hb2
  obtain ⟨⟨m0, m1, _, _⟩, _⟩ := id henv2
  go_wp2_with fail
  refine (text_any 526 0 _ (by omega) (by omega) (by omega) henv2.2.1.1 henv2.2.1.2.1 henv2.2.1.2.2).mono ?_
  rintro e w3 ⟨rfl, hb3⟩
  have henv3 := henv2.below hb3
  rw [alive_runs]
  clear henv2 hb3 m0 m1
  obtain ⟨⟨m0, m1, _, _⟩, _⟩ := id henv3
  go_wp2_with fail
  refine (top_any 526 0 _ (by omega) (by omega)).mono ?_
  rintro e w4 ⟨rfl, hb4⟩
  have henv4 := henv3.below hb4
  rw [alive_top]
  clear henv3 hb4 m0 m1
  obtain ⟨⟨m0, m1, _, _⟩, _⟩ := id henv4
  go_wp2_with fail
  refine (below_any 526 0 3 _ (by omega) (by omega) (by omega)).mono ?_
  rintro e w5 ⟨rfl, hb5⟩
  have henv5 := henv4.below hb5
  rw [alive_below.1, alive_below.2]
  clear henv4 hb5 m0 m1
  go_wp2_with fail
  refine (len_any 6 0 _ (by omega) (by omega)).mono ?_
  rintro e w6 ⟨rfl, hb6⟩
  have henv6 := henv5.below hb6
  rw [alive_len]
  clear henv5 hb6
  go_wp2_with fail
  refine (text_zero _).mono ?_
  rintro e w7 ⟨rfl, hb7⟩
  have hbw := below_endL henv6.2.2 hb7
  clear henv6 hb7
  go_wp2_with fail
  go_ret
  exact ⟨rfl, hbw⟩
end Go.Proofs.YthpinbngggcgcaaDoor
