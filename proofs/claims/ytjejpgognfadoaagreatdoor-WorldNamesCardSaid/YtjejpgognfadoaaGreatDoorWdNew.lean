/-
  A new wire.
-/
import Derived.Test.YtjejpgognfadoaaGreatDoorWdRing
namespace Go.Proofs.YtjejpgognfadoaaGreatDoor
open Go.RowKit Go.Maps Go.ChangeMaps

theorem Rg.more {w : World} {B B' r cap inn out : Nat} {F : Nat → Prop} {bs : List Int} (h : Rg w B r F cap bs inn out) (hB : B' ≤ B) : Rg w B' r F cap bs inn out := by
  obtain ⟨cb, v, ps, h1, h2, h3, h4, h5⟩ := h
  exact ⟨cb, v, ps, h1, Nat.le_trans hB h2, Nat.le_trans hB h3, ⟨h4.blk, h4.row.mono hB, Nat.le_trans hB h4.hB, h4.lies, h4.le, h4.big, h4.fit, h4.hin, h4.sm⟩, h5⟩

/-- A wire whose first q ends are laid. -/
def cellsN (g n q : Nat) (p0 p1 : Value) : Array Value := #[.int .i64 (n : Int), (if 0 < q then .pointer (some ⟨g, 0, none⟩) else .pointer none), .int .i64 0, .int .i64 0, .bool false, p0, .int .u64 0, .int .u64 0,
  (if 1 < q then .pointer (some ⟨g, 0, none⟩) else .pointer none), .int .i64 (if 1 < q then 1 else 0), .int .i64 0, .bool false, p1, .int .u64 0, .int .u64 0, .bool false, .int .i64 0, .slice none 0 0]
/-- The ring of an end that is laid, or there is none. -/
def RgN (w : World) (g cap : Nat) (c : Bool) (p : Value) (r : Nat) (F : Nat → Prop) : Prop := p = rp c r ∧ (c = true → Rg w (g + 1) r F cap [] 0 0) ∧ (c = false → ∀ b, ¬ F b)
section
variable {w w' : World} {g cap : Nat} {c : Bool} {p : Value} {r : Nat} {F : Nat → Prop}
theorem RgN.lt (h : RgN w g cap c p r F) {b : Nat} (hb : F b) : b < w.heap.size ∧ g < b := by
  cases c with
  | true => have := (h.2.1 rfl).lt hb; omega
  | false => exact absurd hb (h.2.2 rfl b)
theorem RgN.same (h : RgN w g cap c p r F) (e : ∀ b, F b → w'.heap[b]? = w.heap[b]?) (hs : w.heap.size ≤ w'.heap.size) : RgN w' g cap c p r F :=
  ⟨h.1, fun hc => (h.2.1 hc).same e (Nat.le_trans (h.2.1 hc).base hs), h.2.2⟩
theorem RgN.none (w : World) (g cap : Nat) : RgN w g cap false (.pointer none) 0 (fun _ => False) := ⟨rfl, (fun e => by cases e), fun _ _ e => e⟩
end
/-- Behind q rounds. -/
def NwI (w : World) (n cap readers q : Nat) (W : World) : Prop := ∃ (p0 p1 : Value) (r0 r1 : Nat) (F0 F1 : Nat → Prop), Blk W w.heap.size 73 (cellsN w.heap.size n q p0 p1) ∧
  RgN W w.heap.size cap (decide (0 < q) && decide (0 < readers)) p0 r0 F0 ∧ RgN W w.heap.size cap (decide (1 < q) && decide (1 < readers)) p1 r1 F1 ∧ (∀ b, F0 b → ¬ F1 b) ∧ Below w.heap.size w W

section
variable {w W W2 : World} {n cap readers : Nat}
/-- The world in which an end's place is told. -/
def nwM (W : World) (g o : Nat) (i : Int) : World := (W.setCell ⟨g, o, none⟩ (.pointer (some ⟨g, 0, none⟩))).setCell ⟨g, o + 1, none⟩ (.int .i64 i)
theorem nwM_other (W : World) (g o : Nat) (i : Int) {b : Nat} (hb : b ≠ g) : (nwM W g o i).heap[b]? = W.heap[b]? := (Below.heap_setCell _ _ _ _ hb).trans (Below.heap_setCell _ _ _ _ hb)
theorem nwM_size (W : World) (g o : Nat) (i : Int) : (nwM W g o i).heap.size = W.heap.size := by simp [nwM, World.setCell]
theorem nwM_below {w W : World} {B : Nat} (h : Below B w W) (g o : Nat) (i : Int) (hg : B ≤ g) : Below B w (nwM W g o i) := (h.setCell (p := ⟨g, o, none⟩) hg _).setCell (p := ⟨g, o + 1, none⟩) hg _
theorem nw0_no (h : NwI w n cap readers 0 W) (hr : ¬ 0 < readers) : NwI w n cap readers 1 (nwM W w.heap.size 1 0) := by
  obtain ⟨p0, p1, r0, r1, F0, F1, hb, h0, h1, hs, hB⟩ := h
  have hn : ∀ b, F0 b ∨ F1 b → b ≠ w.heap.size := fun b hb e => by
    rcases hb with hb | hb
    · have := (h0.lt hb).2; omega
    · have := (h1.lt hb).2; omega
  refine ⟨p0, p1, r0, r1, F0, F1, ((hb.set_ 1 _).set_ 2 (.int .i64 0)), ?_, h1.same (fun b hb => nwM_other _ _ _ _ (hn b (.inr hb))) (by rw [nwM_size]; exact Nat.le_refl _), hs, nwM_below hB _ _ _ (Nat.le_refl _)⟩
  rw [show (decide (0 < 1) && decide (0 < readers)) = (decide (0 < 0) && decide (0 < readers)) from by simp [hr]]
  exact h0.same (fun b hb => nwM_other _ _ _ _ (hn b (.inl hb))) (by rw [nwM_size]; exact Nat.le_refl _)
theorem nw1_no (h : NwI w n cap readers 1 W) (hr : ¬ 1 < readers) : NwI w n cap readers 2 (nwM W w.heap.size 8 1) := by
  obtain ⟨p0, p1, r0, r1, F0, F1, hb, h0, h1, hs, hB⟩ := h
  have hn : ∀ b, F0 b ∨ F1 b → b ≠ w.heap.size := fun b hb e => by
    rcases hb with hb | hb
    · have := (h0.lt hb).2; omega
    · have := (h1.lt hb).2; omega
  refine ⟨p0, p1, r0, r1, F0, F1, ((hb.set_ 8 _).set_ 9 (.int .i64 1)), h0.same (fun b hb => nwM_other _ _ _ _ (hn b (.inl hb))) (by rw [nwM_size]; exact Nat.le_refl _), ?_, hs, nwM_below hB _ _ _ (Nat.le_refl _)⟩
  rw [show (decide (1 < 2) && decide (1 < readers)) = (decide (1 < 1) && decide (1 < readers)) from by simp [hr]]
  exact h1.same (fun b hb => nwM_other _ _ _ _ (hn b (.inr hb))) (by rw [nwM_size]; exact Nat.le_refl _)
theorem nw0_yes (h : NwI w n cap readers 0 W) (hr : 0 < readers) {r : Nat} {F : Nat → Prop} (hg : Rg W2 (nwM W w.heap.size 1 0).heap.size r F cap [] 0 0) (hb2 : Below (nwM W w.heap.size 1 0).heap.size (nwM W w.heap.size 1 0) W2) :
    NwI w n cap readers 1 (W2.setCell ⟨w.heap.size, 5, none⟩ (.pointer (some ⟨r, 0, none⟩))) := by
  obtain ⟨p0, p1, r0, r1, F0, F1, hb, h0, h1, hs, hB⟩ := h
  rw [nwM_size] at hg hb2
  have lg := hb.lt
  have hb' : Blk W2 w.heap.size 73 (cellsN w.heap.size n 1 p0 p1) := Blk.same (w := nwM W w.heap.size 1 0) ((hb.set_ 1 _).set_ 2 (.int .i64 0)) (hb2.block _ lg)
  have hFg : ∀ b, F b → b ≠ w.heap.size := fun b hb e => by have := (hg.lt hb).2; omega
  have h1n : ∀ b, ¬ F1 b := h1.2.2 rfl
  refine ⟨.pointer (some ⟨r, 0, none⟩), p1, r, r1, F, F1, hb'.set_ 5 _, ?_, ?_, fun b _ e => h1n b e, ?_⟩
  · rw [show (decide (0 < 1) && decide (0 < readers)) = true from by simp [hr]]
    exact ⟨rfl, fun _ => (hg.more (by omega)).same (fun b hb => Below.heap_setCell _ _ _ _ (hFg b hb)) (by have := hb2.size; simp [World.setCell]; rw [nwM_size] at this; omega), fun e => by cases e⟩
  · exact h1.same (fun b hb => absurd hb (h1n b)) (by have := hb2.size; simp [World.setCell]; rw [nwM_size] at this; omega)
  · exact ((nwM_below hB _ _ _ (Nat.le_refl _)).trans (hb2.mono (Nat.le_of_lt lg))).setCell (p := ⟨w.heap.size, 5, none⟩) (Nat.le_refl _) _
theorem nw1_yes (h : NwI w n cap readers 1 W) (hr : 1 < readers) {r : Nat} {F : Nat → Prop} (hg : Rg W2 (nwM W w.heap.size 8 1).heap.size r F cap [] 0 0) (hb2 : Below (nwM W w.heap.size 8 1).heap.size (nwM W w.heap.size 8 1) W2) :
    NwI w n cap readers 2 (W2.setCell ⟨w.heap.size, 12, none⟩ (.pointer (some ⟨r, 0, none⟩))) := by
  obtain ⟨p0, p1, r0, r1, F0, F1, hb, h0, h1, hs, hB⟩ := h
  rw [nwM_size] at hg hb2
  have lg := hb.lt
  have hb' : Blk W2 w.heap.size 73 (cellsN w.heap.size n 2 p0 p1) := Blk.same (w := nwM W w.heap.size 8 1) ((hb.set_ 8 _).set_ 9 (.int .i64 1)) (hb2.block _ lg)
  have hFg : ∀ b, F b → b ≠ w.heap.size := fun b hb e => by have := (hg.lt hb).2; omega
  refine ⟨p0, .pointer (some ⟨r, 0, none⟩), r0, r, F0, F, hb'.set_ 12 _, ?_, ?_, fun b e e2 => by have := (h0.lt e).1; have := (hg.lt e2).2; omega, ?_⟩
  · refine h0.same (fun b hb => ?_) (by have := hb2.size; simp [World.setCell]; rw [nwM_size] at this; omega)
    have h2 := h0.lt hb
    rw [Below.heap_setCell _ _ _ _ (show b ≠ w.heap.size by omega), hb2.block b h2.1, nwM_other _ _ _ _ (show b ≠ w.heap.size by omega)]
  · rw [show (decide (1 < 2) && decide (1 < readers)) = true from by simp [hr]]
    exact ⟨rfl, fun _ => (hg.more (by omega)).same (fun b hb => Below.heap_setCell _ _ _ _ (hFg b hb)) (by have := hb2.size; simp [World.setCell]; rw [nwM_size] at this; omega), fun e => by cases e⟩
  · exact ((nwM_below hB _ _ _ (Nat.le_refl _)).trans (hb2.mono (Nat.le_of_lt lg))).setCell (p := ⟨w.heap.size, 12, none⟩) (Nat.le_refl _) _
theorem nw_done (h : NwI w n cap readers 2 W) (hr : readers ≤ 2) : (∃ r F, Wr W w.heap.size w.heap.size n r F (.slice none 0 0) (Wi.new cap readers)) ∧ Below w.heap.size w W := by
  obtain ⟨p0, p1, r0, r1, F0, F1, hb, h0, h1, hs, hB⟩ := h
  refine ⟨⟨fun k => if k then r1 else r0, fun k => if k then F1 else F0, ⟨?_, Nat.le_refl _, hB.size, ?_, ?_, ?_, ?_⟩⟩, hB⟩
  · have e0 := h0.1
    have e1 := h1.1
    rw [show (decide (0 < 2) && decide (0 < readers)) = decide (0 < readers) from by simp] at e0
    rw [show (decide (1 < 2) && decide (1 < readers)) = decide (1 < readers) from by simp] at e1
    subst e0; subst e1
    exact hb
  · intro k hk
    cases k with
    | false => exact ⟨0, (h0.2.1 (by simpa [Wi.new, En.new] using hk)).more (Nat.le_succ _)⟩
    | true => exact ⟨0, (h1.2.1 (by simpa [Wi.new, En.new] using hk)).more (Nat.le_succ _)⟩
  · intro k hk b hb
    cases k with
    | false => exact h0.2.2 (by simpa [Wi.new, En.new] using hk) b hb
    | true => exact h1.2.2 (by simpa [Wi.new, En.new] using hk) b hb
  · intro k b h1 h2
    cases k with
    | false => exact hs b h1 h2
    | true => exact hs b h2 h1
  · intro k hk
    cases k with
    | false => have := (h0.lt hk).2; omega
    | true => have := (h1.lt hk).2; omega
end

set_option maxRecDepth 100000 in
set_option maxHeartbeats 4000000 in
theorem newWire_any (w : World) (n cap readers : Nat) (hc : cap ≤ 65536) (hr : readers ≤ 2) : Calls Tryz.prog 73 #[.int .i64 (n : Int), .int .i64 (cap : Int), .int .i64 (readers : Int)] w fun e w' =>
    e = .returned (.pointer (some ⟨w.heap.size, 0, none⟩)) ∧ (∃ r F, Wr w' w.heap.size w.heap.size n r F (.slice none 0 0) (Wi.new cap readers)) ∧ Below w.heap.size w w' := by
  have HN := Lib.hid (fun W : World => new_yes W cap hc)
  have hb0 := Blk.new w 73 (cellsN w.heap.size n 0 (.pointer none) (.pointer none))
  have H0 := Lib.hid (show NwI w n cap readers 0 (w.alloc (.cells (cellsN w.heap.size n 0 (.pointer none) (.pointer none)) 73)) from
    ⟨_, _, 0, 0, fun _ => False, fun _ => False, hb0, RgN.none _ _ _, RgN.none _ _ _, fun _ e => e.elim, (Below.refl _ w).alloc (Nat.le_refl _) _⟩)
  clear hb0
  go_enter Tryz.func73, Tryz.ntmps73
  go_wp2_with fail
  go_loopw [13] (fun v wr => ∃ q : Nat, v = .int .i64 (q : Int) ∧ q ≤ 2 ∧ NwI w n cap readers q wr) (fun v _ => 2 - (intOf v).toNat)
  case atStart => exact ⟨0, rfl, Nat.zero_le _, H0.out⟩
  case round =>
    obtain ⟨q, rfl, hq, p0, p1, r0, r1, F0, F1, hb, h0, h1, hs, hB⟩ := hrel
    have lg := hb.lt
    rcases (by omega : q = 0 ∨ q = 1 ∨ q = 2) with rfl | rfl | rfl
    · have k1 := hb.cell 1
      have k2 := hb.cell 2
      have k5 := hb.cell 5
      simp [cellsN] at k1 k2 k5
      have f1 := hb.frozen 1
      have f2 := hb.frozen 2
      have HI := Lib.hid (show NwI w n cap readers 0 wr from ⟨p0, p1, r0, r1, F0, F1, hb, h0, h1, hs, hB⟩)
      by_cases hrd : 0 < readers
      · have q1 : (0 : Int) < (readers : Int) := by omega
        have HB := Lib.hid (show Blk (nwM wr w.heap.size 1 0) w.heap.size 73 (cellsN w.heap.size n 1 p0 p1) from (hb.set_ 1 _).set_ 2 (.int .i64 0))
        clear hb h0 h1 hs hB
        go_wp2_with fail
        refine (HN.out _).mono ?_
        rintro e W2 ⟨r, F, rfl, hg, hb2, _⟩
        have HE := Lib.hid (nw0_yes HI.out hrd hg hb2)
        have k5' : W2.cell? ⟨w.heap.size, 5, none⟩ = some p0 := by rw [World.cell?_of_block (hb2.block _ (by simpa [World.setCell] using lg))]; exact (HB.out.cell 5)
        have f5' : W2.frozen? ⟨w.heap.size, 5, none⟩ = false := Blk.frozen (Blk.same HB.out (hb2.block _ (by simpa [World.setCell] using lg))) 5
        clear hg hb2
        go_wp2_with fail
        go_roundw
        case rel => exact ⟨1, by go_num, by omega, HE.out⟩
        case measure => simp [intOf] <;> omega
      · have q1 : ¬ (0 : Int) < (readers : Int) := by omega
        have HE := Lib.hid (nw0_no HI.out hrd)
        clear hb h0 h1 hs hB
        go_wp2_with fail
        go_roundw
        case rel => exact ⟨1, by go_num, by omega, HE.out⟩
        case measure => simp [intOf] <;> omega
    · have k1 := hb.cell 8
      have k2 := hb.cell 9
      have k5 := hb.cell 12
      simp [cellsN] at k1 k2 k5
      have f1 := hb.frozen 8
      have f2 := hb.frozen 9
      have HI := Lib.hid (show NwI w n cap readers 1 wr from ⟨p0, p1, r0, r1, F0, F1, hb, h0, h1, hs, hB⟩)
      by_cases hrd : 1 < readers
      · have q1 : (1 : Int) < (readers : Int) := by omega
        have HB := Lib.hid (show Blk (nwM wr w.heap.size 8 1) w.heap.size 73 (cellsN w.heap.size n 2 p0 p1) from (hb.set_ 8 _).set_ 9 (.int .i64 1))
        clear hb h0 h1 hs hB
        go_wp2_with fail
        refine (HN.out _).mono ?_
        rintro e W2 ⟨r, F, rfl, hg, hb2, _⟩
        have HE := Lib.hid (nw1_yes HI.out hrd hg hb2)
        have k5' : W2.cell? ⟨w.heap.size, 12, none⟩ = some p1 := by rw [World.cell?_of_block (hb2.block _ (by simpa [World.setCell] using lg))]; exact (HB.out.cell 12)
        have f5' : W2.frozen? ⟨w.heap.size, 12, none⟩ = false := Blk.frozen (Blk.same HB.out (hb2.block _ (by simpa [World.setCell] using lg))) 12
        clear hg hb2
        go_wp2_with fail
        go_roundw
        case rel => exact ⟨2, by go_num, by omega, HE.out⟩
        case measure => simp [intOf] <;> omega
      · have q1 : ¬ (1 : Int) < (readers : Int) := by omega
        have HE := Lib.hid (nw1_no HI.out hrd)
        clear hb h0 h1 hs hB
        go_wp2_with fail
        go_roundw
        case rel => exact ⟨2, by go_num, by omega, HE.out⟩
        case measure => simp [intOf] <;> omega
    · have HI := Lib.hid (nw_done (show NwI w n cap readers 2 wr from ⟨p0, p1, r0, r1, F0, F1, hb, h0, h1, hs, hB⟩) hr)
      clear hb h0 h1 hs hB
      go_wp2_with fail
      go_ret
      exact ⟨rfl, HI.out⟩
end Go.Proofs.YtjejpgognfadoaaGreatDoor
