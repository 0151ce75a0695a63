/-
  FdsetNames, the walk: it returns true, and nothing that lay has turned.
-/
import Derived.Test.YthpinbngggcgcaaDoorBack
import Derived.Deep.RegionHeld3
namespace Go.Proofs.YthpinbngggcgcaaDoor
open Go.RowKit Go.Shelf

attribute [local go_sem] Oper.semAt_some
/-- The texts that no set has. -/
def badTexts : List ByteArray := [⟨#[49, 44, 50]⟩, ⟨#[51, 45, 51]⟩, ⟨#[54, 51, 45, 54, 52]⟩, ⟨#[48, 49]⟩, ⟨#[]⟩, ⟨#[51, 45, 49]⟩, ⟨#[49, 45]⟩, ⟨#[45, 49]⟩, ⟨#[49, 44, 44, 50]⟩, ⟨#[50, 44, 49]⟩, ⟨#[110, 111, 110, 101, 44, 49]⟩, ⟨#[43, 49]⟩, ⟨#[54, 52]⟩]
def tx (k : Nat) : ByteArray := badTexts.getD k ⟨#[]⟩
theorem tx_bad : ∀ k, k < 13 → (tx k).size ≤ 100000 ∧ parseR (tx k).data.toList = none ∧ ¬ (tx k).data.toList = [110, 111, 110, 101] := by decide +kernel
theorem parse_bad (t : ByteArray) (h : t.size ≤ 100000 ∧ parseR t.data.toList = none ∧ ¬ t.data.toList = [110, 111, 110, 101]) (w : World) (hE : Errs w) :
    Calls Tryd.prog 22 #[.string t] w fun e w' => e = .returned (.tuple #[.agg #[.int .u32 0, .int .u32 0], .int .i64 11]) ∧ Below w.heap.size w w' := by
  refine (parse_any t h.1 (fun e => h.2.2 (by rw [e])) w hE).mono fun e w' ho => ?_
  rcases ho with ⟨_, hr⟩ | ⟨rs, a, b, hp, _⟩
  · exact hr
  · rw [h.2.1] at hp; cases hp
theorem text_full : textB 4294967295 4294967295 = [48, 45, 54, 51] := by decide +kernel
theorem parse_full (w : World) (hE : Errs w) : Calls Tryd.prog 22 #[.string ⟨#[48, 45, 54, 51]⟩] w (RetP w 4294967295 4294967295 0) := by
  have h := parse_own 4294967295 4294967295 (by omega) (by omega) w hE
  rw [text_full] at h
  exact h
theorem strs_new (w : World) (k : Nat) (hk : k < 13) : (w.alloc (.cells #[.string ⟨#[49, 44, 50]⟩, .string ⟨#[51, 45, 51]⟩, .string ⟨#[54, 51, 45, 54, 52]⟩, .string ⟨#[48, 49]⟩, .string ⟨#[]⟩, .string ⟨#[51, 45, 49]⟩, .string ⟨#[49, 45]⟩, .string ⟨#[45, 49]⟩, .string ⟨#[49, 44, 44, 50]⟩, .string ⟨#[50, 44, 49]⟩, .string ⟨#[110, 111, 110, 101, 44, 49]⟩, .string ⟨#[43, 49]⟩, .string ⟨#[54, 52]⟩] 9)).cell? ⟨w.heap.size, k, none⟩ = some (.string (tx k)) := by
  rw [World.cell?_alloc_at _ _ _ _ rfl]
  have : k = 0 ∨ k = 1 ∨ k = 2 ∨ k = 3 ∨ k = 4 ∨ k = 5 ∨ k = 6 ∨ k = 7 ∨ k = 8 ∨ k = 9 ∨ k = 10 ∨ k = 11 ∨ k = 12 := by omega
  rcases this with rfl | rfl | rfl | rfl | rfl | rfl | rfl | rfl | rfl | rfl | rfl | rfl | rfl <;> rfl
/-- A zero set in a new variable. -/
theorem zero_new (w : World) : Below w.heap.size w (w.alloc (.cells #[.int .u32 0, .int .u32 0] 25)) ∧ (w.alloc (.cells #[.int .u32 0, .int .u32 0] 25)).cell? ⟨w.heap.size, 0, none⟩ = some (.int .u32 0) ∧ (w.alloc (.cells #[.int .u32 0, .int .u32 0] 25)).cell? ⟨w.heap.size, 1, none⟩ = some (.int .u32 0) :=
  ⟨(Below.refl _ _).alloc (Nat.le_refl _) _, (isSet_new w 0 0).1, (isSet_new w 0 0).2.1⟩
/-- What the loop keeps. -/
def EnvT (w : World) (W : World) : Prop := (∀ k, k < 13 → W.cell? ⟨w.heap.size, k, none⟩ = some (.string (tx k))) ∧ HereE W ∧ Below w.heap.size w W
theorem EnvT.below {w W W' : World} (h : EnvT w W) (hb : Below W.heap.size W W') : EnvT w W' := ⟨fun k hk => cell_below hb (h.1 k hk), h.2.1.below hb, below_endL h.2.2 hb⟩

/-! ### The calls -/
theorem with_bad (n : Int) (h : n < 0 ∨ 64 ≤ n) (w : World) : Calls Tryd.prog 26 #[.agg #[.int .u32 0, .int .u32 0], .int .i64 n] w fun e w' => e = .returned (.tuple #[.agg #[.int .u32 0, .int .u32 0], .int .i64 10]) ∧ Below w.heap.size w w' := with_out 0 0 n w h
theorem isL_minus (w : World) : IsL (w.alloc (.cells #[.int .i64 (-1)] 3)) (.slice (some ⟨w.heap.size, 0, none⟩) 1 1) [-1] := by
  refine ⟨some ⟨w.heap.size, 0, none⟩, 1, rfl, by unfold maxLen; simp, (fun h => by cases h), .inr ⟨w.heap.size, 0, rfl, by simp, fun j hj => ?_⟩⟩
  rw [World.cell?_alloc_at _ _ _ _ rfl]
  have : j = 0 := by simp at hj; omega
  subst this
  rfl
theorem next_zero (w : World) (hT : Tab w) (hg : 0 < w.heap.size) : Calls Tryd.prog 15 #[.agg #[.int .u32 0, .int .u32 0], .int .i64 (-5)] w fun e W' => e = .returned (.tuple #[.int .i64 0, .bool false]) ∧ Below w.heap.size w W' := by
  have h := next_any 0 0 (-5) w (by omega) (by omega) hT hg
  rw [show nextI (memI 0 0) (-5) = (0, false) from by decide +kernel] at h
  exact h
theorem next_last (M : Nat) (hM : 4294967295 = M) (w : World) (hT : Tab w) (hg : 0 < w.heap.size) : Calls Tryd.prog 15 #[.agg #[.int .u32 (M : Int), .int .u32 (M : Int)], .int .i64 63] w fun e W' => e = .returned (.tuple #[.int .i64 63, .bool true]) ∧ Below w.heap.size w W' := by
  have h := next_any M M 63 w (by omega) (by omega) hT hg
  rw [show nextI (memI M M) 63 = (63, true) from by rw [← hM]; decide +kernel] at h
  exact h
theorem next_over (M : Nat) (hM : 4294967295 = M) (w : World) (hT : Tab w) (hg : 0 < w.heap.size) : Calls Tryd.prog 15 #[.agg #[.int .u32 (M : Int), .int .u32 (M : Int)], .int .i64 64] w fun e W' => e = .returned (.tuple #[.int .i64 0, .bool false]) ∧ Below w.heap.size w W' := by
  have h := next_any M M 64 w (by omega) (by omega) hT hg
  rw [show nextI (memI M M) 64 = (0, false) from by rw [← hM]; decide +kernel] at h
  exact h
theorem len_full (M : Nat) (hM : 4294967295 = M) (w : World) : Calls Tryd.prog 19 #[.agg #[.int .u32 (M : Int), .int .u32 (M : Int)]] w fun e w' => e = .returned (.int .i64 64) ∧ Below w.heap.size w w' := by
  have h := len_any M M w (by omega) (by omega)
  rw [show (memI M M).length = 64 from by rw [← hM]; decide +kernel] at h
  exact h
theorem top_zero (w : World) : Calls Tryd.prog 18 #[.agg #[.int .u32 0, .int .u32 0]] w fun e w' => e = .returned (.int .i64 (-1)) ∧ Below w.heap.size w w' := top_any 0 0 w (by omega) (by omega)
theorem below_none (M : Nat) (hM : 4294967295 = M) (w : World) : Calls Tryd.prog 20 #[.agg #[.int .u32 (M : Int), .int .u32 (M : Int)], .int .i64 (-1)] w fun e w' => e = .returned (.agg #[.int .u32 0, .int .u32 0]) ∧ Below w.heap.size w w' := by
  have h := below_any M M (-1) w (by omega) (by omega) (by omega)
  rw [show M &&& mask ((-1 : Int).toNat) = 0 from by rw [← hM]; decide +kernel, show M &&& mask ((-1 : Int).toNat - 32) = 0 from by rw [← hM]; decide +kernel] at h
  exact h
theorem below_all (M : Nat) (hM : 4294967295 = M) (w : World) : Calls Tryd.prog 20 #[.agg #[.int .u32 (M : Int), .int .u32 (M : Int)], .int .i64 4611686018427387904] w (RetS w M M) := by
  have h := below_any M M 4611686018427387904 w (by omega) (by omega) (by omega)
  rw [show M &&& mask ((4611686018427387904 : Int).toNat) = M from by rw [← hM]; decide +kernel, show M &&& mask ((4611686018427387904 : Int).toNat - 32) = M from by rw [← hM]; decide +kernel] at h
  exact h
/-- Both sets in their variables. -/
def EnvN (w : World) (Bn Bl M : Nat) (W : World) : Prop := EnvBk w Bn 0 0 W ∧ IsSet W Bl M M
theorem EnvN.below {w : World} {Bn Bl M : Nat} {W W' : World} (h : EnvN w Bn Bl M W) (hb : Below W.heap.size W W') : EnvN w Bn Bl M W' := ⟨h.1.below hb, h.2.below hb⟩
theorem EnvN.drew {w : World} {Bn Bl M : Nat} {W : World} (h : EnvN w Bn Bl M W) : EnvN w Bn Bl M W.drew := h.below (Below.refl _ _).drew
theorem EnvBk.zeros {w W : World} {B : Nat} (h : EnvBk w B 0 0 W) : W.cell? ⟨B, 0, none⟩ = some (.int .u32 0) ∧ W.cell? ⟨B, 1, none⟩ = some (.int .u32 0) := ⟨h.1.1, h.1.2.1⟩
theorem EnvN.cells {w W : World} {Bn Bl M : Nat} (h : EnvN w Bn Bl M W) : W.cell? ⟨Bn, 0, none⟩ = some (.int .u32 0) ∧ W.cell? ⟨Bn, 1, none⟩ = some (.int .u32 0) ∧ W.cell? ⟨Bl, 0, none⟩ = some (.int .u32 (M : Int)) ∧ W.cell? ⟨Bl, 1, none⟩ = some (.int .u32 (M : Int)) := ⟨h.1.1.1, h.1.1.2.1, h.2.1, h.2.2.1⟩

set_option maxRecDepth 100000 in
set_option maxHeartbeats 1500000 in
theorem names_any (w : World) (hh : HereE w) : Calls Tryd.prog 5 #[] w fun e w' => e = .returned (.bool true) ∧ Below w.heap.size w w' := by
  have hal := strs_new w
  have hB0 : Below w.heap.size w (w.alloc (.cells #[.string ⟨#[49, 44, 50]⟩, .string ⟨#[51, 45, 51]⟩, .string ⟨#[54, 51, 45, 54, 52]⟩, .string ⟨#[48, 49]⟩, .string ⟨#[]⟩, .string ⟨#[51, 45, 49]⟩, .string ⟨#[49, 45]⟩, .string ⟨#[45, 49]⟩, .string ⟨#[49, 44, 44, 50]⟩, .string ⟨#[50, 44, 49]⟩, .string ⟨#[110, 111, 110, 101, 44, 49]⟩, .string ⟨#[43, 49]⟩, .string ⟨#[54, 52]⟩] 9)) := (Below.refl _ _).alloc (Nat.le_refl _) _
  have H0 : Hid (EnvT w (w.alloc (.cells #[.string ⟨#[49, 44, 50]⟩, .string ⟨#[51, 45, 51]⟩, .string ⟨#[54, 51, 45, 54, 52]⟩, .string ⟨#[48, 49]⟩, .string ⟨#[]⟩, .string ⟨#[51, 45, 49]⟩, .string ⟨#[49, 45]⟩, .string ⟨#[45, 49]⟩, .string ⟨#[49, 44, 44, 50]⟩, .string ⟨#[50, 44, 49]⟩, .string ⟨#[110, 111, 110, 101, 44, 49]⟩, .string ⟨#[43, 49]⟩, .string ⟨#[54, 52]⟩] 9))) := Lib.hid ⟨hal, hh.below hB0, hB0⟩
  have ez := eqSet 0 0 0 0
  simp only [beq_self_eq_true, Bool.and_self] at ez
  clear hal hB0 hh
  go_enter Tryd.func5, Tryd.ntmps5
  go_wp2_with fail
  go_loopw [1, 23] (fun v1 v23 wr => ∃ k : Nat, k ≤ 13 ∧ v1 = .bool true ∧ v23 = .int .i64 (k : Int) ∧ Hid (EnvT w wr)) (fun _ v23 _ => 13 - (intOf v23).toNat)
  case atStart => exact ⟨0, by omega, rfl, rfl, H0⟩
  case round =>
    clear H0
    obtain ⟨k, hk, rfl, rfl, He⟩ := hrel
    by_cases hlt : k < 13
    · have hc := He.out.1 k hlt
      obtain ⟨x, hx⟩ : ∃ x, tx k = x := ⟨_, rfl⟩
      have hbad := tx_bad k hlt
      rw [hx] at hc hbad
      have Hp := Lib.hid (parse_bad x hbad wr He.out.2.1.2)
      clear hx hbad
      have hlt' : (k : Int) < 13 := by omega
      have hk0 : (0 : Int) ≤ (k : Int) := by omega
      go_wp2_with fail
      refine Hp.out.mono ?_
      rintro e w2 ⟨rfl, hb2⟩
      obtain ⟨z1, z2, z3⟩ := zero_new w2
      have He2 := Lib.hid ((He.out.below hb2).below z1)
      clear He hb2 z1 hc
      go_wp2_with fail
      go_roundw
      case rel => exact ⟨k + 1, by omega, rfl, by go_num, He2⟩
      case measure => simp [intOf]; omega
    · obtain rfl : k = 13 := by omega
      obtain ⟨n1, n2, n3⟩ := zero_new wr
      have h1 : EnvBk w wr.heap.size 0 0 (wr.alloc (.cells #[.int .u32 0, .int .u32 0] 25)) := ⟨isSet_new wr 0 0, He.out.2.1.below n1, below_endL He.out.2.2 n1⟩
      clear He n1
      obtain ⟨M, hM⟩ : ∃ M : Nat, 4294967295 = M := ⟨_, rfl⟩
      have HM := Lib.hid hM
      have eF : ∀ w, Sem.run Tryd.prog (Op.equalIn 10000 25 (.agg #[.int .u32 (M : Int), .int .u32 (M : Int)]) (.agg #[.int .u32 4294967295, .int .u32 4294967295])) w = .ok true w := fun w => by rw [eqSet, ← hM]; rfl
      have eM := eqSet M M M M
      simp only [beq_self_eq_true, Bool.and_self] at eM
      clear hM
      have H1 := Lib.hid h1
      clear h1
      go_wp2_with fail
      refine (with_bad 64 (by omega) _).mono ?_
      rintro e w1 ⟨rfl, hb1⟩
      have h2 := (H1.out.below hb1).below (zero_new w1).1
      clear H1 hb1 n2 n3
      obtain ⟨n2, n3⟩ := h2.zeros
      have H2 := Lib.hid h2
      clear h2
      go_wp2_with fail
      refine (with_bad (-1) (by omega) _).mono ?_
      rintro e w2 ⟨rfl, hb2⟩
      have h3 := (H2.out.below hb2).below (zero_new w2).1
      clear H2 hb2 n2 n3
      have h4 := h3.below ((Below.refl _ _).alloc (Nat.le_refl _) (.cells #[.int .i64 (-1)] 3))
      have hL := isL_minus (w2.alloc (.cells #[.int .u32 0, .int .u32 0] 25))
      simp only [World.size_alloc] at hL
      have H4 := Lib.hid h4
      have HL := Lib.hid hL
      clear h3 h4 hL
      go_wp2_with fail
      refine (fof_bad [-1] _ _ HL.out (by decide)).mono ?_
      rintro e w3 ⟨rfl, hb3⟩
      have h5 := (H4.out.below hb3).below (zero_new w3).1
      have H5 := Lib.hid h5
      clear H4 HL hb3 h5
      go_wp2_with fail
      refine (parse_full _ H5.out.2.1.2).mono ?_
      rw [HM.out]
      rintro e w4 ⟨rfl, hb4⟩
      have h6 : EnvN w wr.heap.size w4.heap.size M (w4.alloc (.cells #[.int .u32 (M : Int), .int .u32 (M : Int)] 25)) := ⟨(H5.out.below hb4).below ((Below.refl _ _).alloc (Nat.le_refl _) _), isSet_new w4 M M⟩
      obtain ⟨n2, n3, n4, n5⟩ := h6.cells
      have H6 := Lib.hid h6
      clear h6 H5 hb4
      go_wp2_with fail
      refine (next_zero _ H6.out.1.2.1.1.1 H6.out.1.2.1.1.2.1).mono ?_
      rintro e w5 ⟨rfl, hb5⟩
      have h7 := H6.out.below hb5
      clear n2 n3 n4 n5 H6 hb5
      obtain ⟨n2, n3, n4, n5⟩ := h7.cells
      have H7 := Lib.hid h7
      clear h7
      go_wp2_with fail
      refine (next_last M HM.out _ H7.out.1.2.1.1.1 H7.out.1.2.1.1.2.1).mono ?_
      rintro e w6 ⟨rfl, hb6⟩
      have h8 := H7.out.below hb6
      clear n2 n3 n4 n5 H7 hb6
      obtain ⟨n2, n3, n4, n5⟩ := h8.cells
      have H8 := Lib.hid h8
      clear h8
      go_wp2_with fail
      refine (next_over M HM.out _ H8.out.1.2.1.1.1 H8.out.1.2.1.1.2.1).mono ?_
      rintro e w7 ⟨rfl, hb7⟩
      have h9 := H8.out.below hb7
      clear n2 n3 n4 n5 H8 hb7
      go_wp2_with fail
      have hE := h9.drew
      clear h9
      simp only [List.append]
      go_region_held3 (fun W => W.cell? ⟨wr.heap.size, 0, none⟩ = some (.int .u32 0) ∧ W.cell? ⟨wr.heap.size, 1, none⟩ = some (.int .u32 0) ∧ W.cell? ⟨w4.heap.size, 0, none⟩ = some (.int .u32 (M : Int)) ∧ W.cell? ⟨w4.heap.size, 1, none⟩ = some (.int .u32 (M : Int)))
        (exact hE.cells)
        (first
          | (go_at_call 27; refine (alive_any _ hE.1.2.1.1).mono ?_; rintro e w' ⟨rfl, hbx⟩; have hE := hE.below hbx)
          | (go_at_call 19; refine (len_full M HM.out _).mono ?_; rintro e w' ⟨rfl, hbx⟩; have hE := hE.below hbx)
          | (go_at_call 18; refine (top_zero _).mono ?_; rintro e w' ⟨rfl, hbx⟩; have hE := hE.below hbx)
          | (go_at_call_of 20 (Value.int .i64 4611686018427387904); refine (below_all M HM.out _).mono ?_; rintro e w' ⟨rfl, hbx⟩; have hE := hE.below hbx)
          | (go_at_call 20; refine (below_none M HM.out _).mono ?_; rintro e w' ⟨rfl, hbx⟩; have hE := hE.below hbx)
          | (go_at_call 28; refine (without_out M M 99 _ (by omega)).mono ?_; rintro e w' ⟨rfl, hbx⟩; have hE := hE.below hbx))
      go_wp2_with fail
      go_ret
      exact ⟨rfl, hE.1.2.2⟩
end Go.Proofs.YthpinbngggcgcaaDoor
