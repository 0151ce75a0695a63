/-
  FdsetOne, the walk: for any set and any descriptor it returns true, and nothing that lay has turned.
-/
import Derived.Test.YtnefjlglhnkbfaaDoorOneLaws
import Derived.Test.YtnefjlglhnkbfaaDoorSetLaws
import Derived.Test.YtnefjlglhnkbfaaDoorLaid3
import Derived.Test.YtnefjlglhnkbfaaDoorEqSet
import Derived.Deep.RegionHeld3
import Derived.IntWalk
namespace Go.Proofs.YtnefjlglhnkbfaaDoor
open Go.RowKit Go.Shelf

attribute [local go_sem] Oper.semAt_some
/-- Sets in their variables, the newest first. -/
def EnvL (w : World) (l : List (Nat × Nat × Nat)) (W : World) : Prop := (∀ x ∈ l, IsSet W x.1 x.2.1 x.2.2) ∧ Below w.heap.size w W
theorem EnvL.below {w : World} {l : List (Nat × Nat × Nat)} {W W' : World} (h : EnvL w l W) (hb : Below W.heap.size W W') : EnvL w l W' := ⟨fun x hx => (h.1 x hx).below hb, below_endL h.2 hb⟩
theorem EnvL.drew {w : World} {l : List (Nat × Nat × Nat)} {W : World} (h : EnvL w l W) : EnvL w l W.drew := ⟨h.1, h.2.drew⟩
theorem EnvL.drewN {w : World} {l : List (Nat × Nat × Nat)} {W : World} (h : EnvL w l W) (n : Nat) : EnvL w l (W.drewN n) := ⟨h.1, ⟨h.2.os, h.2.tape, h.2.output, h.2.size, h.2.block⟩⟩
theorem EnvL.alloc {w : World} {l : List (Nat × Nat × Nat)} {W : World} (h : EnvL w l W) (o : Obj) : EnvL w l (W.alloc o) := h.below ((Below.refl _ _).alloc (Nat.le_refl _) _)
theorem EnvL.new {w : World} {l : List (Nat × Nat × Nat)} {W : World} (h : EnvL w l W) (x y : Nat) : EnvL w ((W.heap.size, x, y) :: l) (W.alloc (.cells #[.int .u32 (x : Int), .int .u32 (y : Int)] 25)) := by
  refine ⟨fun z hz => ?_, (h.alloc _).2⟩
  rcases List.mem_cons.1 hz with rfl | hz
  · exact isSet_new W x y
  · exact (h.alloc _).1 z hz
theorem EnvL.cells {w : World} {l : List (Nat × Nat × Nat)} {W : World} (h : EnvL w l W) {B x y : Nat} (hm : (B, x, y) ∈ l) : W.cell? ⟨B, 0, none⟩ = some (.int .u32 (x : Int)) ∧ W.cell? ⟨B, 1, none⟩ = some (.int .u32 (y : Int)) := ⟨(h.1 _ hm).1, (h.1 _ hm).2.1⟩
theorem isL_one (n : Nat) (w : World) : IsL (w.alloc (.cells #[.int .i64 (n : Int)] 3)) (.slice (some ⟨w.heap.size, 0, none⟩) 1 1) [(n : Int)] := by
  refine ⟨some ⟨w.heap.size, 0, none⟩, 1, rfl, by unfold maxLen; simp, (fun h => by cases h), .inr ⟨w.heap.size, 0, rfl, by simp, fun j hj => ?_⟩⟩
  rw [World.cell?_alloc_at _ _ _ _ rfl]
  have : j = 0 := by simp at hj; omega
  subst this
  rfl
theorem EnvL.five {w W : World} {B1 B2 B3 B4 B5 x1 x2 x3 x4 x5 y1 y2 y3 y4 y5 : Nat} (h : EnvL w [(B5, x5, y5), (B4, x4, y4), (B3, x3, y3), (B2, x2, y2), (B1, x1, y1)] W) :
    W.cell? ⟨B1, 0, none⟩ = some (.int .u32 (x1 : Int)) ∧ W.cell? ⟨B1, 1, none⟩ = some (.int .u32 (y1 : Int)) ∧ W.cell? ⟨B2, 0, none⟩ = some (.int .u32 (x2 : Int)) ∧ W.cell? ⟨B2, 1, none⟩ = some (.int .u32 (y2 : Int)) ∧ W.cell? ⟨B3, 0, none⟩ = some (.int .u32 (x3 : Int)) ∧ W.cell? ⟨B3, 1, none⟩ = some (.int .u32 (y3 : Int)) ∧ W.cell? ⟨B4, 0, none⟩ = some (.int .u32 (x4 : Int)) ∧ W.cell? ⟨B4, 1, none⟩ = some (.int .u32 (y4 : Int)) ∧ W.cell? ⟨B5, 0, none⟩ = some (.int .u32 (x5 : Int)) ∧ W.cell? ⟨B5, 1, none⟩ = some (.int .u32 (y5 : Int)) := by
  have h1 := h.cells (B := B1) (x := x1) (y := y1) (by simp)
  have h2 := h.cells (B := B2) (x := x2) (y := y2) (by simp)
  have h3 := h.cells (B := B3) (x := x3) (y := y3) (by simp)
  have h4 := h.cells (B := B4) (x := x4) (y := y4) (by simp)
  have h5 := h.cells (B := B5) (x := x5) (y := y5) (by simp)
  exact ⟨h1.1, h1.2, h2.1, h2.2, h3.1, h3.2, h4.1, h4.2, h5.1, h5.2⟩
theorem eq_same (a b : Int) : ∀ w, Sem.run Tryd.prog (Op.equalIn 10000 25 (.agg #[.int .u32 a, .int .u32 b]) (.agg #[.int .u32 a, .int .u32 b])) w = .ok true w := fun w => by rw [eqSet]; simp
theorem okI_one (n : Nat) (hn : n < 64) : [(n : Int)].all okI = true := by simp [okI]; omega

set_option maxRecDepth 100000 in
set_option maxHeartbeats 4000000 in
theorem one_any (a b f : Nat) (w : World) (ha : a < 4294967296) (hb : b < 4294967296) (hf : f < 256) (hh : Here w) :
    Calls Tryd.prog 10 #[.agg #[.int .u32 (a : Int), .int .u32 (b : Int)], .int .u8 (f : Int)] w fun e w' => e = .returned (.bool true) ∧ Below w.heap.size w w' := by
  obtain ⟨n, hnf⟩ : ∃ n, f % 64 = n := ⟨_, rfl⟩
  have hn : n < 64 := by omega
  have hrem : (f : Int).tmod 64 = (n : Int) := by rw [Int.tmod_eq_emod_of_nonneg (by omega)]; omega
  have hrem2 : (f : Int) % 64 = (n : Int) := by omega
  have h0 : EnvL w [(w.heap.size, a, b)] (w.alloc (.cells #[.int .u32 (a : Int), .int .u32 (b : Int)] 25)) :=
    EnvL.new (l := []) ⟨fun _ hx => (List.not_mem_nil hx).elim, Below.refl _ _⟩ a b
  have hh0 := hh.below h0.2
  obtain ⟨m0, hm0⟩ : ∃ x, w0 a n = x := ⟨_, rfl⟩
  obtain ⟨m1, hm1⟩ : ∃ x, w1 b n = x := ⟨_, rfl⟩
  obtain ⟨l0, hl0⟩ : ∃ x, o0 a n = x := ⟨_, rfl⟩
  obtain ⟨l1, hl1⟩ : ∃ x, o1 b n = x := ⟨_, rfl⟩
  have bm0 : m0 < 4294967296 := hm0 ▸ w0_lt n ha
  have bm1 : m1 < 4294967296 := hm1 ▸ w1_lt n hb
  have bl0 : l0 < 4294967296 := hl0 ▸ o0_lt n ha
  have bl1 : l1 < 4294967296 := hl1 ▸ o1_lt n hb
  have tw := law_twice a b n ha hb hn
  have ll := law_less_less a b n ha hb hn
  have ml := law_more_less a b n ha hb hn
  have oo := law_or_one a b n ha hb hn
  have lo := law_less_one a b n ha hb hn
  have mh := more_has a b n hn
  have lh := less_has a b n hn
  have mo := fun k hk h => more_other a b n k hn hk h
  have le := fun k hk h => less_other a b n k hn hk h
  rw [hm0, hm1] at tw ml oo mh
  rw [hl0, hl1] at ll ml lo lh
  rw [hm0, hm1] at mo
  have W1 := fun w => with_in a b n w ha hb hn
  have W2 := fun w => with_in m0 m1 n w bm0 bm1 hn
  have W3 := fun w => without_in a b n w ha hb hn
  rw [hm0, hm1] at W1
  rw [tw.1, tw.2] at W2
  rw [hl0, hl1] at W3
  have HW := Lib.hid (And.intro W1 (And.intro W2 W3))
  clear W1 W2 W3
  rw [hl0, hl1] at le
  go_enter Tryd.func10, Tryd.ntmps10
  go_wp2_with fail
  refine (alive_any _ hh0).mono ?_
  rintro e w1 ⟨rfl, hb1⟩
  have h1 := h0.below hb1
  clear h0 hh hh0 hb1
  obtain ⟨s0, s1⟩ := h1.cells (B := w.heap.size) (x := a) (y := b) (by simp)
  go_wp2_with fail
  refine (HW.out.1 _).mono ?_
  rintro e w2 ⟨rfl, hb2⟩
  have h2 := (h1.below hb2).new m0 m1
  clear h1 hb2 s0 s1
  have H2 := Lib.hid h2
  obtain ⟨c0, c1⟩ := h2.cells (B := w2.heap.size) (x := m0) (y := m1) (by simp)
  clear h2
  go_wp2_with fail
  refine (HW.out.2.1 _).mono ?_
  rintro e w3 ⟨rfl, hb3⟩
  have h3 := (H2.out.below hb3).new m0 m1
  clear H2 hb3 c0 c1
  have H3 := Lib.hid h3
  obtain ⟨c0, c1⟩ := h3.cells (B := w.heap.size) (x := a) (y := b) (by simp)
  clear h3
  go_wp2_with fail
  refine (HW.out.2.2 _).mono ?_
  rintro e w4 ⟨rfl, hb4⟩
  have h4 := (H3.out.below hb4).new l0 l1
  clear H3 hb4 c0 c1
  obtain ⟨Z, hZ⟩ : ∃ Z, w4.alloc (.cells #[.int .u32 (l0 : Int), .int .u32 (l1 : Int)] 25) = Z := ⟨_, rfl⟩
  rw [hZ] at h4
  have h5 := h4.alloc (.cells #[.int .i64 (n : Int)] 3)
  have i5 := isL_one n Z
  have H5 := Lib.hid (And.intro h5 i5)
  clear h4 h5 i5
  go_wp2_with fail
  refine (fof_ok [(n : Int)] _ _ H5.out.2 (okI_one n hn)).mono ?_
  rintro e w5 ⟨e0, e1, he, rfl, hb5⟩
  obtain ⟨be0, be1, _⟩ := id he
  obtain ⟨q0, q1⟩ := wordsOf_one n e0 e1 hn he
  rw [← q0, ← q1] at oo lo
  clear he q0 q1
  have h6 := (H5.out.1.below hb5).new e0 e1
  clear H5 hb5
  have H6 := Lib.hid h6
  obtain ⟨c0, c1⟩ := h6.cells (B := w2.heap.size) (x := m0) (y := m1) (by simp)
  obtain ⟨d0, d1⟩ := h6.cells (B := w4.heap.size) (x := l0) (y := l1) (by simp)
  clear h6
  have T1 := fun w => has_yes m0 m1 n w bm0 bm1 hn mh
  have T2 := fun w => has_no l0 l1 n w bl0 bl1 hn lh
  have HT := Lib.hid (And.intro T1 T2)
  clear T1 T2
  go_wp2_with fail
  refine (HT.out.1 _).mono ?_
  rintro e w6 ⟨rfl, hb6⟩
  have h7 := H6.out.below hb6
  clear H6 hb6 c0 c1 d0 d1
  have H7 := Lib.hid h7
  obtain ⟨d0, d1⟩ := h7.cells (B := w4.heap.size) (x := l0) (y := l1) (by simp)
  clear h7
  go_wp2_with fail
  refine (HT.out.2 _).mono ?_
  rintro e w7 ⟨rfl, hb7⟩
  have h8 := H7.out.below hb7
  clear H7 hb7 d0 d1
  have H8 := Lib.hid h8
  clear h8 hZ
  go_wp2_with fail
  have R1 := fun w => without_in l0 l1 n w bl0 bl1 hn
  have R2 := fun w => without_in m0 m1 n w bm0 bm1 hn
  have R3 := fun w => or_any a b e0 e1 w ha hb be0 be1
  have R4 := fun w => less_any a b e0 e1 w ha hb be0 be1
  rw [ll.1, ll.2] at R1
  rw [ml.1, ml.2] at R2
  rw [oo.1, oo.2] at R3
  rw [lo.1, lo.2] at R4
  have HR := Lib.hid (And.intro R1 (And.intro R2 (And.intro R3 R4)))
  have Hmo := Lib.hid mo
  have Hle := Lib.hid le
  clear R1 R2 R3 R4 ll ml oo lo mo le tw mh lh HT HW hm0 hm1 hl0 hl1 hrem hrem2 hnf hf
  go_loopw [14] (fun v14 wr => ∃ k : Nat, v14 = .int .i64 (k : Int) ∧ k ≤ 64 ∧ EnvL w [(w5.heap.size, e0, e1), (w4.heap.size, l0, l1), (w3.heap.size, m0, m1), (w2.heap.size, m0, m1), (w.heap.size, a, b)] wr) (fun v14 _ => 64 - (intOf v14).toNat)
  case atStart => exact ⟨0, rfl, by omega, H8.out⟩
  case round =>
    obtain ⟨k, rfl, hk, hE⟩ := hrel
    clear H8
    by_cases hlt : k < 64
    · by_cases hkn : k = n
      · subst hkn
        have hE0 := Lib.hid hE
        clear hE
        go_wp2_with fail
        have hE := hE0.out
        clear hE0
        go_quiet (fail)
        go_wp2_with fail
        go_roundw
        case rel => exact ⟨k + 1, by go_num, by omega, hE.drewN _⟩
        case measure => simp [intOf]; omega
      · obtain ⟨x, hx⟩ : ∃ x, hasB a b k = x := ⟨_, rfl⟩
        have F1 := fun w => has_in m0 m1 k w bm0 bm1 hlt
        have F2 := fun w => has_in a b k w ha hb hlt
        have F3 := fun w => has_in l0 l1 k w bl0 bl1 hlt
        rw [Hmo.out k hlt hkn, hx] at F1
        rw [hx] at F2
        rw [Hle.out k hlt hkn, hx] at F3
        have HF := Lib.hid (And.intro F1 (And.intro F2 F3))
        have hkn2 : ((k : Int) != (n : Int)) = true := by rw [bne_iff_ne]; omega
        have hkn3 : ((k : Int) == (n : Int)) = false := by rw [beq_eq_false_iff_ne]; omega
        have hE0 := Lib.hid hE
        clear hE F1 F2 F3 hx
        go_wp2_with fail
        have hE := hE0.out.drew
        cases x
        · go_region_held3 (fun W => W.cell? ⟨w.heap.size, 0, none⟩ = some (.int .u32 (a : Int)) ∧ W.cell? ⟨w.heap.size, 1, none⟩ = some (.int .u32 (b : Int)) ∧ W.cell? ⟨w2.heap.size, 0, none⟩ = some (.int .u32 (m0 : Int)) ∧ W.cell? ⟨w2.heap.size, 1, none⟩ = some (.int .u32 (m1 : Int)) ∧ W.cell? ⟨w3.heap.size, 0, none⟩ = some (.int .u32 (m0 : Int)) ∧ W.cell? ⟨w3.heap.size, 1, none⟩ = some (.int .u32 (m1 : Int)) ∧ W.cell? ⟨w4.heap.size, 0, none⟩ = some (.int .u32 (l0 : Int)) ∧ W.cell? ⟨w4.heap.size, 1, none⟩ = some (.int .u32 (l1 : Int)) ∧ W.cell? ⟨w5.heap.size, 0, none⟩ = some (.int .u32 (e0 : Int)) ∧ W.cell? ⟨w5.heap.size, 1, none⟩ = some (.int .u32 (e1 : Int))) (exact hE.five)
            (first
            | (go_at_call_of 32 (Value.agg #[.int .u32 (m0 : Int), .int .u32 (m1 : Int)]); refine (HF.out.1 _).mono ?_; rintro e w' ⟨rfl, hbx⟩; have hE := hE.below hbx)
            | (go_at_call_of 32 (Value.agg #[.int .u32 (a : Int), .int .u32 (b : Int)]); refine (HF.out.2.1 _).mono ?_; rintro e w' ⟨rfl, hbx⟩; have hE := hE.below hbx)
            | (go_at_call_of 32 (Value.agg #[.int .u32 (l0 : Int), .int .u32 (l1 : Int)]); refine (HF.out.2.2 _).mono ?_; rintro e w' ⟨rfl, hbx⟩; have hE := hE.below hbx))
          go_wp2_with fail
          go_roundw
          case rel => exact ⟨k + 1, by go_num, by omega, hE⟩
          case measure => simp [intOf]; omega
        · go_region_held3 (fun W => W.cell? ⟨w.heap.size, 0, none⟩ = some (.int .u32 (a : Int)) ∧ W.cell? ⟨w.heap.size, 1, none⟩ = some (.int .u32 (b : Int)) ∧ W.cell? ⟨w2.heap.size, 0, none⟩ = some (.int .u32 (m0 : Int)) ∧ W.cell? ⟨w2.heap.size, 1, none⟩ = some (.int .u32 (m1 : Int)) ∧ W.cell? ⟨w3.heap.size, 0, none⟩ = some (.int .u32 (m0 : Int)) ∧ W.cell? ⟨w3.heap.size, 1, none⟩ = some (.int .u32 (m1 : Int)) ∧ W.cell? ⟨w4.heap.size, 0, none⟩ = some (.int .u32 (l0 : Int)) ∧ W.cell? ⟨w4.heap.size, 1, none⟩ = some (.int .u32 (l1 : Int)) ∧ W.cell? ⟨w5.heap.size, 0, none⟩ = some (.int .u32 (e0 : Int)) ∧ W.cell? ⟨w5.heap.size, 1, none⟩ = some (.int .u32 (e1 : Int))) (exact hE.five)
            (first
            | (go_at_call_of 32 (Value.agg #[.int .u32 (m0 : Int), .int .u32 (m1 : Int)]); refine (HF.out.1 _).mono ?_; rintro e w' ⟨rfl, hbx⟩; have hE := hE.below hbx)
            | (go_at_call_of 32 (Value.agg #[.int .u32 (a : Int), .int .u32 (b : Int)]); refine (HF.out.2.1 _).mono ?_; rintro e w' ⟨rfl, hbx⟩; have hE := hE.below hbx)
            | (go_at_call_of 32 (Value.agg #[.int .u32 (l0 : Int), .int .u32 (l1 : Int)]); refine (HF.out.2.2 _).mono ?_; rintro e w' ⟨rfl, hbx⟩; have hE := hE.below hbx))
          go_wp2_with fail
          go_roundw
          case rel => exact ⟨k + 1, by go_num, by omega, hE⟩
          case measure => simp [intOf]; omega
    · have hE0 := Lib.hid hE
      clear hE
      go_wp2_with fail
      have hE := hE0.out.drew
      have eqM := eq_same (m0 : Int) (m1 : Int)
      have eqL := eq_same (l0 : Int) (l1 : Int)
      go_region_held3 (fun W => W.cell? ⟨w.heap.size, 0, none⟩ = some (.int .u32 (a : Int)) ∧ W.cell? ⟨w.heap.size, 1, none⟩ = some (.int .u32 (b : Int)) ∧ W.cell? ⟨w2.heap.size, 0, none⟩ = some (.int .u32 (m0 : Int)) ∧ W.cell? ⟨w2.heap.size, 1, none⟩ = some (.int .u32 (m1 : Int)) ∧ W.cell? ⟨w3.heap.size, 0, none⟩ = some (.int .u32 (m0 : Int)) ∧ W.cell? ⟨w3.heap.size, 1, none⟩ = some (.int .u32 (m1 : Int)) ∧ W.cell? ⟨w4.heap.size, 0, none⟩ = some (.int .u32 (l0 : Int)) ∧ W.cell? ⟨w4.heap.size, 1, none⟩ = some (.int .u32 (l1 : Int)) ∧ W.cell? ⟨w5.heap.size, 0, none⟩ = some (.int .u32 (e0 : Int)) ∧ W.cell? ⟨w5.heap.size, 1, none⟩ = some (.int .u32 (e1 : Int))) (exact hE.five)
        (first
          | (go_at_call_of 28 (Value.agg #[.int .u32 (l0 : Int), .int .u32 (l1 : Int)]); refine (HR.out.1 _).mono ?_; rintro e w' ⟨rfl, hbx⟩; have hE := hE.below hbx)
          | (go_at_call_of 28 (Value.agg #[.int .u32 (m0 : Int), .int .u32 (m1 : Int)]); refine (HR.out.2.1 _).mono ?_; rintro e w' ⟨rfl, hbx⟩; have hE := hE.below hbx)
          | (go_at_call 31; refine (HR.out.2.2.1 _).mono ?_; rintro e w' ⟨rfl, hbx⟩; have hE := hE.below hbx)
          | (go_at_call 30; refine (HR.out.2.2.2 _).mono ?_; rintro e w' ⟨rfl, hbx⟩; have hE := hE.below hbx))
      go_wp2_with fail
      go_ret
      exact ⟨rfl, hE.2⟩
end Go.Proofs.YtnefjlglhnkbfaaDoor
