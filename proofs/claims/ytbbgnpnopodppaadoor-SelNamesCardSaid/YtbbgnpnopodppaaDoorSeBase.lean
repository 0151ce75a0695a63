/-
  What the other texts stand on, in one.
-/
import Derived.Test.YtbbgnpnopodppaaDoorSeBaseA

/-
  A new wire.
-/
namespace Go.Proofs.YtbbgnpnopodppaaDoor
open Go.RowKit Go.Maps Go.ChangeMaps

theorem Rg.more {w : World} {B B' r cap inn out : Nat} {F : Nat → Prop} {bs : List Int} (h : Rg w B r F cap bs inn out) (hB : B' ≤ B) : Rg w B' r F cap bs inn out := by
  obtain ⟨cb, v, ps, h1, h2, h3, h4, h5⟩ := h
  exact ⟨cb, v, ps, h1, Nat.le_trans hB h2, Nat.le_trans hB h3, ⟨h4.blk, h4.row.mono hB, Nat.le_trans hB h4.hB, h4.lies, h4.le, h4.big, h4.fit, h4.hin, h4.sm⟩, h5⟩

/-- A wire whose first q ends are laid. -/
def cellsN (g n q : Nat) (p0 p1 : Value) : Array Value := #[.int .i64 (n : Int), (if 0 < q then .pointer (some ⟨g, 0, none⟩) else .pointer none), .int .i64 0, .int .i64 0, .bool false, p0, .int .u64 0, .int .u64 0,
  (if 1 < q then .pointer (some ⟨g, 0, none⟩) else .pointer none), .int .i64 (if 1 < q then 1 else 0), .int .i64 0, .bool false, p1, .int .u64 0, .int .u64 0, .bool false, .int .i64 0, .slice none 0 0]
/-- The ring of an end that is laid, or there is none. -/
def RgN (w : World) (g cap : Nat) (c : Bool) (p : Value) (r : Nat) (F : Nat → Prop) : Prop := p = rp c r ∧ (c = true → Rg w (g + 1) r F cap [] 0 0) ∧ (c = false → ∀ b, ¬ F b)
section
variable {w w' : World} {g cap : Nat} {c : Bool} {p : Value} {r : Nat} {F : Nat → Prop}
theorem RgN.lt (h : RgN w g cap c p r F) {b : Nat} (hb : F b) : b < w.heap.size ∧ g < b := by
  cases c with
  | true => have := (h.2.1 rfl).lt hb; omega
  | false => exact absurd hb (h.2.2 rfl b)
theorem RgN.same (h : RgN w g cap c p r F) (e : ∀ b, F b → w'.heap[b]? = w.heap[b]?) (hs : w.heap.size ≤ w'.heap.size) : RgN w' g cap c p r F :=
  ⟨h.1, fun hc => (h.2.1 hc).same e (Nat.le_trans (h.2.1 hc).base hs), h.2.2⟩
theorem RgN.none (w : World) (g cap : Nat) : RgN w g cap false (.pointer none) 0 (fun _ => False) := ⟨rfl, (fun e => by cases e), fun _ _ e => e⟩
end
/-- Behind q rounds. -/
def NwI (w : World) (n cap readers q : Nat) (W : World) : Prop := ∃ (p0 p1 : Value) (r0 r1 : Nat) (F0 F1 : Nat → Prop), Blk W w.heap.size 57 (cellsN w.heap.size n q p0 p1) ∧
  RgN W w.heap.size cap (decide (0 < q) && decide (0 < readers)) p0 r0 F0 ∧ RgN W w.heap.size cap (decide (1 < q) && decide (1 < readers)) p1 r1 F1 ∧ (∀ b, F0 b → ¬ F1 b) ∧ Below w.heap.size w W

section
variable {w W W2 : World} {n cap readers : Nat}
/-- The world in which an end's place is told. -/
def nwM (W : World) (g o : Nat) (i : Int) : World := (W.setCell ⟨g, o, none⟩ (.pointer (some ⟨g, 0, none⟩))).setCell ⟨g, o + 1, none⟩ (.int .i64 i)
theorem nwM_other (W : World) (g o : Nat) (i : Int) {b : Nat} (hb : b ≠ g) : (nwM W g o i).heap[b]? = W.heap[b]? := (Below.heap_setCell _ _ _ _ hb).trans (Below.heap_setCell _ _ _ _ hb)
theorem nwM_size (W : World) (g o : Nat) (i : Int) : (nwM W g o i).heap.size = W.heap.size := by simp [nwM, World.setCell]
theorem nwM_below {w W : World} {B : Nat} (h : Below B w W) (g o : Nat) (i : Int) (hg : B ≤ g) : Below B w (nwM W g o i) := (h.setCell (p := ⟨g, o, none⟩) hg _).setCell (p := ⟨g, o + 1, none⟩) hg _
theorem nw0_no (h : NwI w n cap readers 0 W) (hr : ¬ 0 < readers) : NwI w n cap readers 1 (nwM W w.heap.size 1 0) := by
  obtain ⟨p0, p1, r0, r1, F0, F1, hb, h0, h1, hs, hB⟩ := h
  have hn : ∀ b, F0 b ∨ F1 b → b ≠ w.heap.size := fun b hb e => by
    rcases hb with hb | hb
    · have := (h0.lt hb).2; omega
    · have := (h1.lt hb).2; omega
  refine ⟨p0, p1, r0, r1, F0, F1, ((hb.set_ 1 _).set_ 2 (.int .i64 0)), ?_, h1.same (fun b hb => nwM_other _ _ _ _ (hn b (.inr hb))) (by rw [nwM_size]; exact Nat.le_refl _), hs, nwM_below hB _ _ _ (Nat.le_refl _)⟩
  rw [show (decide (0 < 1) && decide (0 < readers)) = (decide (0 < 0) && decide (0 < readers)) from by simp [hr]]
  exact h0.same (fun b hb => nwM_other _ _ _ _ (hn b (.inl hb))) (by rw [nwM_size]; exact Nat.le_refl _)
theorem nw1_no (h : NwI w n cap readers 1 W) (hr : ¬ 1 < readers) : NwI w n cap readers 2 (nwM W w.heap.size 8 1) := by
  obtain ⟨p0, p1, r0, r1, F0, F1, hb, h0, h1, hs, hB⟩ := h
  have hn : ∀ b, F0 b ∨ F1 b → b ≠ w.heap.size := fun b hb e => by
    rcases hb with hb | hb
    · have := (h0.lt hb).2; omega
    · have := (h1.lt hb).2; omega
  refine ⟨p0, p1, r0, r1, F0, F1, ((hb.set_ 8 _).set_ 9 (.int .i64 1)), h0.same (fun b hb => nwM_other _ _ _ _ (hn b (.inl hb))) (by rw [nwM_size]; exact Nat.le_refl _), ?_, hs, nwM_below hB _ _ _ (Nat.le_refl _)⟩
  rw [show (decide (1 < 2) && decide (1 < readers)) = (decide (1 < 1) && decide (1 < readers)) from by simp [hr]]
  exact h1.same (fun b hb => nwM_other _ _ _ _ (hn b (.inr hb))) (by rw [nwM_size]; exact Nat.le_refl _)
theorem nw0_yes (h : NwI w n cap readers 0 W) (hr : 0 < readers) {r : Nat} {F : Nat → Prop} (hg : Rg W2 (nwM W w.heap.size 1 0).heap.size r F cap [] 0 0) (hb2 : Below (nwM W w.heap.size 1 0).heap.size (nwM W w.heap.size 1 0) W2) :
    NwI w n cap readers 1 (W2.setCell ⟨w.heap.size, 5, none⟩ (.pointer (some ⟨r, 0, none⟩))) := by
  obtain ⟨p0, p1, r0, r1, F0, F1, hb, h0, h1, hs, hB⟩ := h
  rw [nwM_size] at hg hb2
  have lg := hb.lt
  have hb' : Blk W2 w.heap.size 57 (cellsN w.heap.size n 1 p0 p1) := Blk.same (w := nwM W w.heap.size 1 0) ((hb.set_ 1 _).set_ 2 (.int .i64 0)) (hb2.block _ lg)
  have hFg : ∀ b, F b → b ≠ w.heap.size := fun b hb e => by have := (hg.lt hb).2; omega
  have h1n : ∀ b, ¬ F1 b := h1.2.2 rfl
  refine ⟨.pointer (some ⟨r, 0, none⟩), p1, r, r1, F, F1, hb'.set_ 5 _, ?_, ?_, fun b _ e => h1n b e, ?_⟩
  · rw [show (decide (0 < 1) && decide (0 < readers)) = true from by simp [hr]]
    exact ⟨rfl, fun _ => (hg.more (by omega)).same (fun b hb => Below.heap_setCell _ _ _ _ (hFg b hb)) (by have := hb2.size; simp [World.setCell]; rw [nwM_size] at this; omega), fun e => by cases e⟩
  · exact h1.same (fun b hb => absurd hb (h1n b)) (by have := hb2.size; simp [World.setCell]; rw [nwM_size] at this; omega)
  · exact ((nwM_below hB _ _ _ (Nat.le_refl _)).trans (hb2.mono (Nat.le_of_lt lg))).setCell (p := ⟨w.heap.size, 5, none⟩) (Nat.le_refl _) _
theorem nw1_yes (h : NwI w n cap readers 1 W) (hr : 1 < readers) {r : Nat} {F : Nat → Prop} (hg : Rg W2 (nwM W w.heap.size 8 1).heap.size r F cap [] 0 0) (hb2 : Below (nwM W w.heap.size 8 1).heap.size (nwM W w.heap.size 8 1) W2) :
    NwI w n cap readers 2 (W2.setCell ⟨w.heap.size, 12, none⟩ (.pointer (some ⟨r, 0, none⟩))) := by
  obtain ⟨p0, p1, r0, r1, F0, F1, hb, h0, h1, hs, hB⟩ := h
  rw [nwM_size] at hg hb2
  have lg := hb.lt
  have hb' : Blk W2 w.heap.size 57 (cellsN w.heap.size n 2 p0 p1) := Blk.same (w := nwM W w.heap.size 8 1) ((hb.set_ 8 _).set_ 9 (.int .i64 1)) (hb2.block _ lg)
  have hFg : ∀ b, F b → b ≠ w.heap.size := fun b hb e => by have := (hg.lt hb).2; omega
  refine ⟨p0, .pointer (some ⟨r, 0, none⟩), r0, r, F0, F, hb'.set_ 12 _, ?_, ?_, fun b e e2 => by have := (h0.lt e).1; have := (hg.lt e2).2; omega, ?_⟩
  · refine h0.same (fun b hb => ?_) (by have := hb2.size; simp [World.setCell]; rw [nwM_size] at this; omega)
    have h2 := h0.lt hb
    rw [Below.heap_setCell _ _ _ _ (show b ≠ w.heap.size by omega), hb2.block b h2.1, nwM_other _ _ _ _ (show b ≠ w.heap.size by omega)]
  · rw [show (decide (1 < 2) && decide (1 < readers)) = true from by simp [hr]]
    exact ⟨rfl, fun _ => (hg.more (by omega)).same (fun b hb => Below.heap_setCell _ _ _ _ (hFg b hb)) (by have := hb2.size; simp [World.setCell]; rw [nwM_size] at this; omega), fun e => by cases e⟩
  · exact ((nwM_below hB _ _ _ (Nat.le_refl _)).trans (hb2.mono (Nat.le_of_lt lg))).setCell (p := ⟨w.heap.size, 12, none⟩) (Nat.le_refl _) _
theorem nw_done (h : NwI w n cap readers 2 W) (_hr : readers ≤ 2) : (∃ r F, Wr W w.heap.size w.heap.size n r F (.slice none 0 0) (Wi.new cap readers)) ∧ Below w.heap.size w W := by
  obtain ⟨p0, p1, r0, r1, F0, F1, hb, h0, h1, hs, hB⟩ := h
  refine ⟨⟨fun k => if k then r1 else r0, fun k => if k then F1 else F0, ⟨?_, Nat.le_refl _, hB.size, ?_, ?_, ?_, ?_⟩⟩, hB⟩
  · have e0 := h0.1
    have e1 := h1.1
    rw [show (decide (0 < 2) && decide (0 < readers)) = decide (0 < readers) from by simp] at e0
    rw [show (decide (1 < 2) && decide (1 < readers)) = decide (1 < readers) from by simp] at e1
    subst e0; subst e1
    exact hb
  · intro k hk
    cases k with
    | false => exact ⟨0, (h0.2.1 (by simpa [Wi.new, En.new] using hk)).more (Nat.le_succ _)⟩
    | true => exact ⟨0, (h1.2.1 (by simpa [Wi.new, En.new] using hk)).more (Nat.le_succ _)⟩
  · intro k hk b hb
    cases k with
    | false => exact h0.2.2 (by simpa [Wi.new, En.new] using hk) b hb
    | true => exact h1.2.2 (by simpa [Wi.new, En.new] using hk) b hb
  · intro k b h1 h2
    cases k with
    | false => exact hs b h1 h2
    | true => exact hs b h2 h1
  · intro k hk
    cases k with
    | false => have := (h0.lt hk).2; omega
    | true => have := (h1.lt hk).2; omega
end

set_option maxRecDepth 100000 in
set_option maxHeartbeats 4000000 in
theorem newWire_any (w : World) (n cap readers : Nat) (hc : cap ≤ 65536) (hr : readers ≤ 2) : Calls Tryd.prog 52 #[.int .i64 (n : Int), .int .i64 (cap : Int), .int .i64 (readers : Int)] w fun e w' =>
    e = .returned (.pointer (some ⟨w.heap.size, 0, none⟩)) ∧ (∃ r F, Wr w' w.heap.size w.heap.size n r F (.slice none 0 0) (Wi.new cap readers)) ∧ Below w.heap.size w w' := by
  have HN := Lib.hid (fun W : World => new_yes W cap hc)
  have hb0 := Blk.new w 57 (cellsN w.heap.size n 0 (.pointer none) (.pointer none))
  have H0 := Lib.hid (show NwI w n cap readers 0 (w.alloc (.cells (cellsN w.heap.size n 0 (.pointer none) (.pointer none)) 57)) from
    ⟨_, _, 0, 0, fun _ => False, fun _ => False, hb0, RgN.none _ _ _, RgN.none _ _ _, fun _ e => e.elim, (Below.refl _ w).alloc (Nat.le_refl _) _⟩)
  clear hb0
  go_enter Tryd.func52, Tryd.ntmps52
  go_wp2_with fail
  go_loopw [13] (fun v wr => ∃ q : Nat, v = .int .i64 (q : Int) ∧ q ≤ 2 ∧ NwI w n cap readers q wr) (fun v _ => 2 - (intOf v).toNat)
  case atStart => exact ⟨0, rfl, Nat.zero_le _, H0.out⟩
  case round =>
    obtain ⟨q, rfl, hq, p0, p1, r0, r1, F0, F1, hb, h0, h1, hs, hB⟩ := hrel
    have lg := hb.lt
    rcases (by omega : q = 0 ∨ q = 1 ∨ q = 2) with rfl | rfl | rfl
    · have k1 := hb.cell 1
      have k2 := hb.cell 2
      have k5 := hb.cell 5
      simp [cellsN] at k1 k2 k5
      have f1 := hb.frozen 1
      have f2 := hb.frozen 2
      have HI := Lib.hid (show NwI w n cap readers 0 wr from ⟨p0, p1, r0, r1, F0, F1, hb, h0, h1, hs, hB⟩)
      by_cases hrd : 0 < readers
      · have q1 : (0 : Int) < (readers : Int) := by omega
        have HB := Lib.hid (show Blk (nwM wr w.heap.size 1 0) w.heap.size 57 (cellsN w.heap.size n 1 p0 p1) from (hb.set_ 1 _).set_ 2 (.int .i64 0))
        clear hb h0 h1 hs hB
        go_wp2_with fail
        refine (HN.out _).mono ?_
        rintro e W2 ⟨r, F, rfl, hg, hb2, _⟩
        have HE := Lib.hid (nw0_yes HI.out hrd hg hb2)
        have k5' : W2.cell? ⟨w.heap.size, 5, none⟩ = some p0 := by rw [World.cell?_of_block (hb2.block _ (by simpa [World.setCell] using lg))]; exact (HB.out.cell 5)
        have f5' : W2.frozen? ⟨w.heap.size, 5, none⟩ = false := Blk.frozen (Blk.same HB.out (hb2.block _ (by simpa [World.setCell] using lg))) 5
        clear hg hb2
        go_wp2_with fail
        go_roundw
        case rel => exact ⟨1, by go_num, by omega, HE.out⟩
        case measure => simp [intOf] <;> omega
      · have q1 : ¬ (0 : Int) < (readers : Int) := by omega
        have HE := Lib.hid (nw0_no HI.out hrd)
        clear hb h0 h1 hs hB
        go_wp2_with fail
        go_roundw
        case rel => exact ⟨1, by go_num, by omega, HE.out⟩
        case measure => simp [intOf] <;> omega
    · have k1 := hb.cell 8
      have k2 := hb.cell 9
      have k5 := hb.cell 12
      simp [cellsN] at k1 k2 k5
      have f1 := hb.frozen 8
      have f2 := hb.frozen 9
      have HI := Lib.hid (show NwI w n cap readers 1 wr from ⟨p0, p1, r0, r1, F0, F1, hb, h0, h1, hs, hB⟩)
      by_cases hrd : 1 < readers
      · have q1 : (1 : Int) < (readers : Int) := by omega
        have HB := Lib.hid (show Blk (nwM wr w.heap.size 8 1) w.heap.size 57 (cellsN w.heap.size n 2 p0 p1) from (hb.set_ 8 _).set_ 9 (.int .i64 1))
        clear hb h0 h1 hs hB
        go_wp2_with fail
        refine (HN.out _).mono ?_
        rintro e W2 ⟨r, F, rfl, hg, hb2, _⟩
        have HE := Lib.hid (nw1_yes HI.out hrd hg hb2)
        have k5' : W2.cell? ⟨w.heap.size, 12, none⟩ = some p1 := by rw [World.cell?_of_block (hb2.block _ (by simpa [World.setCell] using lg))]; exact (HB.out.cell 12)
        have f5' : W2.frozen? ⟨w.heap.size, 12, none⟩ = false := Blk.frozen (Blk.same HB.out (hb2.block _ (by simpa [World.setCell] using lg))) 12
        clear hg hb2
        go_wp2_with fail
        go_roundw
        case rel => exact ⟨2, by go_num, by omega, HE.out⟩
        case measure => simp [intOf] <;> omega
      · have q1 : ¬ (1 : Int) < (readers : Int) := by omega
        have HE := Lib.hid (nw1_no HI.out hrd)
        clear hb h0 h1 hs hB
        go_wp2_with fail
        go_roundw
        case rel => exact ⟨2, by go_num, by omega, HE.out⟩
        case measure => simp [intOf] <;> omega
    · have HI := Lib.hid (nw_done (show NwI w n cap readers 2 wr from ⟨p0, p1, r0, r1, F0, F1, hb, h0, h1, hs, hB⟩) hr)
      clear hb h0 h1 hs hB
      go_wp2_with fail
      go_ret
      exact ⟨rfl, HI.out⟩
end Go.Proofs.YtbbgnpnopodppaaDoor

/-
  Pending and Take: their contracts.
-/
namespace Go.Proofs.YtbbgnpnopodppaaDoor
open Go.RowKit Go.Maps Go.ChangeMaps Go.Shelf

attribute [local go_sem] Oper.semAt_some

section
variable {w : World} {k : Nat} {s : T}
/-- Two boxes laid. -/
theorem two_boxes (w : World) (t u : TypeId) (a b : Value) : ∃ V, V = (w.alloc (.cells #[a] t)).alloc (.cells #[b] u) ∧ Kept (fun _ => False) w V ∧ Boxed V w.heap.size t a ∧ Boxed V (w.heap.size + 1) u b ∧ V.heap.size = w.heap.size + 2 := by
  refine ⟨_, rfl, ((Kept.refl _ w).alloc _).alloc _, (Boxed.new w _ _).alloc _, ?_, by simp⟩
  have := Boxed.new (w.alloc (.cells #[a] t)) u b
  simpa using this

def zeros : Array Value := (cList T.new).toArray
theorem zeros_lit : #[Value.int .i64 0, .int .i64 0, .int .i64 0, .int .i64 0, .int .i64 0, .int .i64 0, .int .i64 0, .int .i64 0, .int .i64 0, .int .i64 0, .int .i64 0, .int .i64 0, .int .i64 0, .int .i64 0, .int .i64 0, .int .i64 0, .int .i64 0, .int .i64 0, .int .i64 0, .int .i64 0, .int .i64 0, .int .i64 0, .int .i64 0, .int .i64 0, .int .i64 0, .int .i64 0, .int .i64 0, .int .i64 0, .int .i64 0, .int .i64 0, .int .i64 0, .int .i64 0] = zeros := rfl
theorem zeros_size : zeros.size = 32 := by simp [zeros, cList_len]
theorem zeros_one : ∀ v ∈ zeros, v.oneCell' = true := fun v hv => by
  obtain ⟨i, _, rfl⟩ := List.mem_map.1 (show v ∈ cList T.new by simpa [zeros] using hv)
  rfl
theorem info45 : (Tryd.prog.info? 85).map (·.size) = some zeros.size := by rw [zeros_size]; kernel_rfl
theorem put_zeros (s : T) : putAt (cellsT s) 32 zeros = cellsT s.idle := by
  unfold putAt
  rw [zeros_size]
  show ((hList s ++ cList s).take 32 ++ cList T.new ++ (hList s ++ cList s).drop (32 + 32)).toArray = (hList s.idle ++ cList s.idle).toArray
  rw [List.take_append_of_le_length (by rw [hList_len]; omega), List.take_of_length_le (by rw [hList_len]; omega), List.drop_eq_nil_of_le (by simp [hList_len, cList_len]), List.append_nil]
  rfl

end
end Go.Proofs.YtbbgnpnopodppaaDoor

/-
  The contracts of the document's own answers that the statement calls: in, Same, Some, Of: what each returns for every slice of ints; nothing that lay has turned.
-/
namespace Go.Proofs.YtbbgnpnopodppaaDoor.Fs
open Go.RowKit

theorem inB_take_succ (n : Int) (zs : List Int) (k : Nat) (hk : k < zs.length) : inB n (zs.take (k + 1)) = (inB n (zs.take k) || (zs[k]?.getD 0 == n)) := by
  unfold inB
  rw [List.take_add_one, List.getElem?_eq_getElem hk, Bool.eq_iff_iff]
  simp only [List.getElem?_eq_getElem hk, Option.toList_some, List.mem_append, List.mem_singleton, Option.getD_some, decide_eq_true_eq, Bool.or_eq_true, beq_iff_eq]
  constructor
  · rintro (h | h)
    · exact .inl h
    · exact .inr h.symm
  · rintro (h | h)
    · exact .inl h
    · exact .inr h.symm

/-- Are two lists of ints one list? -/
def sameB (xs ys : List Int) : Bool := decide (xs = ys)
theorem take_ext (xs ys : List Int) (k : Nat) (hx : k < xs.length) (hy : k < ys.length) (h : xs.take k = ys.take k) (he : xs[k]?.getD 0 = ys[k]?.getD 0) : xs.take (k + 1) = ys.take (k + 1) := by
  rw [List.take_add_one, List.take_add_one, h]
  rw [List.getElem?_eq_getElem hx, List.getElem?_eq_getElem hy] at he ⊢
  simp at he
  rw [he]

end Go.Proofs.YtbbgnpnopodppaaDoor.Fs

/-
  WHAT IS OF NO PROGRAM: are all ints of a list descriptors, from 0 to 63?
-/
namespace Go.Proofs.YtbbgnpnopodppaaDoor.Fs

/-- Is it a descriptor? -/
def okI (z : Int) : Bool := decide (0 ≤ z) && decide (z < 64)
theorem okI_take (zs : List Int) (k : Nat) (hk : k < zs.length) : (zs.take (k + 1)).all okI = ((zs.take k).all okI && okI (zs[k]?.getD 0)) := by
  rw [List.take_add_one, List.getElem?_eq_getElem hk, List.all_append]
  simp

end Go.Proofs.YtbbgnpnopodppaaDoor.Fs

/-
  The contract of package fdset's Of: of ints that are all from 0 to 63 it returns the set of them, and OK; else no set, and ErrSet.
-/
namespace Go.Proofs.YtbbgnpnopodppaaDoor.Fs
open Go.RowKit

/-- The words of a set that has just the descriptors of a list. -/
def WordsOf (zs : List Int) (x y : Nat) : Prop := x < 4294967296 ∧ y < 4294967296 ∧ ∀ n, n < 64 → hasB x y n = inB (n : Int) zs
theorem wordsOf_nil : WordsOf [] 0 0 := ⟨by omega, by omega, fun n _ => by simp [hasB, inB]⟩
theorem WordsOf.more {zs : List Int} {x y n : Nat} (h : WordsOf zs x y) (hn : n < 64) : WordsOf (zs ++ [(n : Int)]) (w0 x n) (w1 y n) := by
  obtain ⟨h1, h2, h3⟩ := h
  refine ⟨w0_lt n h1, w1_lt n h2, fun k hk => ?_⟩
  rw [hasB_with _ _ _ _ hn hk, h3 k hk]
  unfold inB
  rw [Bool.eq_iff_iff]
  simp
  exact ⟨fun h => h.imp_right (by omega), fun h => h.imp_right (by omega)⟩
theorem WordsOf.mem {zs : List Int} {x y : Nat} (h : WordsOf zs x y) : memI x y = upTo (fun k => inB (k : Int) zs) 64 := by
  rw [memI_upTo]
  exact upTo_congr _ _ _ fun k hk => h.2.2 k hk

/-- What Of leaves where all are descriptors. -/
def FofOk (w : World) (zs : List Int) (e : Ending) (w' : World) : Prop := ∃ x y, WordsOf zs x y ∧ e = .returned (.tuple #[.agg #[.int .u32 (x : Int), .int .u32 (y : Int)], .int .i64 0]) ∧ Below w.heap.size w w'

set_option maxRecDepth 100000 in
set_option maxHeartbeats 2000000 in
theorem fof_ok (zs : List Int) (v : Value) (w : World) (hv : IsL w v zs) (hok : zs.all okI = true) :
    Calls Tryd.prog 23 #[v] w (FofOk w zs) := by
  obtain ⟨a, cap, rfl, hm, _, h⟩ := hv
  unfold maxLen at hm
  have Hok := Lib.hid hok
  clear hok
  obtain ⟨X, hX⟩ : ∃ X, (w.alloc (.cells #[.int .u32 0, .int .u32 0] 28)).alloc (.cells #[.int .u32 0, .int .u32 0] 28) = X := ⟨_, rfl⟩
  have hbel : Below w.heap.size w X := by rw [← hX]; exact ((Below.refl _ _).alloc (Nat.le_refl _) _).alloc (by simp) _
  have hs1 : IsSet X w.heap.size 0 0 := by rw [← hX]; exact (isSet_new w 0 0).grown (World.grownBy_alloc _ _ none) (by simp)
  have hs2 : IsSet X (w.heap.size + 1) 0 0 := by
    rw [← hX]
    simpa using isSet_new (w.alloc (.cells #[.int .u32 0, .int .u32 0] 28)) 0 0
  have HX := Lib.hid hX
  clear hX
  go_enter Tryd.func23, Tryd.ntmps23
  go_wp2_with fail
  rw [HX.out]
  go_loopw [9] (fun i wr => ∃ k x y : Nat, k ≤ zs.length ∧ i = .int .i64 k ∧ Hid (WordsOf (zs.take k) x y) ∧ Hid (IsSet wr (w.heap.size + 1) x y) ∧ Hid (IsSet wr w.heap.size 0 0) ∧ Below w.heap.size w wr)
    (fun i _ => zs.length - (intOf i).toNat)
  case atStart => exact ⟨0, 0, 0, Nat.zero_le _, rfl, wordsOf_nil, hs2, hs1, hbel⟩
  case round =>
    clear hs1 hs2 hbel HX
    obtain ⟨k, x, y, hk, rfl, Hw, Hs2, Hs1, hbw⟩ := hrel
    by_cases hlt : k < zs.length
    · rcases h with h | ⟨b, off, rfl, hb, hc⟩
      · rw [h] at hlt; simp at hlt
      have hck := (hbw.cell (p := ⟨b, off + k, none⟩) hb).trans (hc k hlt)
      have hx1 : okI (zs[k]?.getD 0) = true := List.all_eq_true.1 Hok.out _ (by rw [List.getElem?_eq_getElem hlt]; simp)
      have htk : zs.take (k + 1) = zs.take k ++ [zs[k]?.getD 0] := by rw [List.take_add_one, List.getElem?_eq_getElem hlt]; simp
      obtain ⟨z, hz⟩ : ∃ z, zs[k]?.getD 0 = z := ⟨_, rfl⟩
      rw [hz] at hx1 hck htk
      simp only [okI, Bool.and_eq_true, decide_eq_true_eq] at hx1
      obtain ⟨n, rfl⟩ : ∃ n : Nat, z = (n : Int) := ⟨z.toNat, by omega⟩
      have hn : n < 64 := by omega
      have Htk := Lib.hid htk
      have Hc := Lib.hid hc
      clear hz htk hc
      have hw2 := Hw.out
      go_wp2_with (first | (go_at_call 24; refine (fits_yes (n : Int) _ (by omega) (by omega)).mono ?_; rintro e w2 ⟨rfl, rfl⟩) | (go_at_call 41; refine (fput_any (w.heap.size + 1) x y n _ Hw.out.1 Hw.out.2.1 hn Hs2.out).mono ?_; rintro e w3 ⟨rfl, hp, hg⟩))
      go_roundw
      case rel => exact ⟨k + 1, Go.Proofs.YtbbgnpnopodppaaDoor.Fs.w0 x n, Go.Proofs.YtbbgnpnopodppaaDoor.Fs.w1 y n, by omega, by go_num, by rw [Htk.out]; exact Hw.out.more hn, hp, Hs1.out.grown hg (by simp), hbw.grown hg hbw.size (fun j hj => by cases hj; omega)⟩
      case measure => simp [intOf]; omega
    · have hw2 := Hw.out
      rw [List.take_of_length_le (by omega)] at hw2
      have Hw2 := Lib.hid hw2
      clear hw2
      obtain ⟨p0, p1, _, _⟩ := Hs2.out
      obtain ⟨q0, q1, g0, g1⟩ := Hs1.out
      go_wp2
      obtain ⟨r0, r1⟩ := two_set (.int .u32 (x : Int)) (.int .u32 (y : Int)) q0 q1
      exact bodyPost_ret (v := .tuple #[.agg #[.int .u32 (x : Int), .int .u32 (y : Int)], .int .i64 0]) (by simp [results, Tryd.results23, go_sem, r0, r1]) rfl ⟨x, y, Hw2.out, rfl, (hbw.setCell (Nat.le_refl _) _).setCell (Nat.le_refl _) _⟩

set_option maxRecDepth 100000 in
set_option maxHeartbeats 2000000 in
theorem fof_bad (zs : List Int) (v : Value) (w : World) (hv : IsL w v zs) (hbad : zs.all okI = false) :
    Calls Tryd.prog 23 #[v] w fun e w' => e = .returned (.tuple #[.agg #[.int .u32 0, .int .u32 0], .int .i64 10]) ∧ Below w.heap.size w w' := by
  obtain ⟨a, cap, rfl, hm, _, h⟩ := hv
  unfold maxLen at hm
  have Hbad := Lib.hid hbad
  clear hbad
  obtain ⟨X, hX⟩ : ∃ X, (w.alloc (.cells #[.int .u32 0, .int .u32 0] 28)).alloc (.cells #[.int .u32 0, .int .u32 0] 28) = X := ⟨_, rfl⟩
  have hbel : Below w.heap.size w X := by rw [← hX]; exact ((Below.refl _ _).alloc (Nat.le_refl _) _).alloc (by simp) _
  have hs1 : IsSet X w.heap.size 0 0 := by rw [← hX]; exact (isSet_new w 0 0).grown (World.grownBy_alloc _ _ none) (by simp)
  have hs2 : IsSet X (w.heap.size + 1) 0 0 := by
    rw [← hX]
    simpa using isSet_new (w.alloc (.cells #[.int .u32 0, .int .u32 0] 28)) 0 0
  have HX := Lib.hid hX
  clear hX
  go_enter Tryd.func23, Tryd.ntmps23
  go_wp2_with fail
  rw [HX.out]
  go_loopw [9] (fun i wr => ∃ k x y : Nat, k ≤ zs.length ∧ i = .int .i64 k ∧ Hid ((zs.take k).all okI = true) ∧ Hid (WordsOf (zs.take k) x y) ∧ Hid (IsSet wr (w.heap.size + 1) x y) ∧ Hid (IsSet wr w.heap.size 0 0) ∧ Below w.heap.size w wr)
    (fun i _ => zs.length - (intOf i).toNat)
  case atStart => exact ⟨0, 0, 0, Nat.zero_le _, rfl, by simp [Hid], wordsOf_nil, hs2, hs1, hbel⟩
  case round =>
    clear hs1 hs2 hbel HX
    obtain ⟨k, x, y, hk, rfl, Hall, Hw, Hs2, Hs1, hbw⟩ := hrel
    by_cases hlt : k < zs.length
    · rcases h with h | ⟨b, off, rfl, hb, hc⟩
      · rw [h] at hlt; simp at hlt
      have hck := (hbw.cell (p := ⟨b, off + k, none⟩) hb).trans (hc k hlt)
      have hsu := okI_take zs k hlt
      rw [Hall.out, Bool.true_and] at hsu
      have htk : zs.take (k + 1) = zs.take k ++ [zs[k]?.getD 0] := by rw [List.take_add_one, List.getElem?_eq_getElem hlt]; simp
      obtain ⟨z, hz⟩ : ∃ z, zs[k]?.getD 0 = z := ⟨_, rfl⟩
      rw [hz] at hsu hck htk
      have Htk := Lib.hid htk
      have Hsu := Lib.hid hsu
      have Hc := Lib.hid hc
      clear hz htk hc hsu
      by_cases hz : z < 0 ∨ 64 ≤ z
      · obtain ⟨q0, q1, g0, g1⟩ := Hs1.out
        go_wp2_with (go_at_call 24; refine (fits_no z _ hz).mono ?_; rintro e w2 ⟨rfl, rfl⟩)
        obtain ⟨r0, r1⟩ := two_set (.int .u32 0) (.int .u32 0) q0 q1
        exact bodyPost_ret (v := .tuple #[.agg #[.int .u32 0, .int .u32 0], .int .i64 10]) (by simp [results, Tryd.results23, go_sem, r0, r1]) rfl ⟨rfl, (hbw.setCell (Nat.le_refl _) _).setCell (Nat.le_refl _) _⟩
      · obtain ⟨n, rfl⟩ : ∃ n : Nat, z = (n : Int) := ⟨z.toNat, by omega⟩
        have hn : n < 64 := by omega
        go_wp2_with (first | (go_at_call 24; refine (fits_yes (n : Int) _ (by omega) (by omega)).mono ?_; rintro e w2 ⟨rfl, rfl⟩) | (go_at_call 41; refine (fput_any (w.heap.size + 1) x y n _ Hw.out.1 Hw.out.2.1 hn Hs2.out).mono ?_; rintro e w3 ⟨rfl, hp, hg⟩))
        go_roundw
        case rel => exact ⟨k + 1, Go.Proofs.YtbbgnpnopodppaaDoor.Fs.w0 x n, Go.Proofs.YtbbgnpnopodppaaDoor.Fs.w1 y n, by omega, by go_num, by unfold Hid; rw [Hsu.out]; simp [okI]; omega, by rw [Htk.out]; exact Hw.out.more hn, hp, Hs1.out.grown hg (by simp), hbw.grown hg hbw.size (fun j hj => by cases hj; omega)⟩
        case measure => simp [intOf]; omega
    · have h1 := Hall.out
      rw [List.take_of_length_le (by omega), Hbad.out] at h1
      cases h1
end Go.Proofs.YtbbgnpnopodppaaDoor.Fs

/-
  Slices of numbers that come in, of any program.
-/
namespace Go.Proofs.YtbbgnpnopodppaaDoor
open Go.RowKit

/-- A slice of numbers that came in. -/
def ArgN (kd : IntKind) (lo hi : Int) (w : World) (A : Option Addr) (l : List Int) : Prop :=
  (∀ x ∈ l, lo ≤ x ∧ x ≤ hi) ∧ (0 < l.length → ∃ b off, A = some ⟨b, off, none⟩ ∧ b < w.heap.size ∧ ∀ i x, l[i]? = some x → w.cell? ⟨b, off + i, none⟩ = some (.int kd x))
section
variable {kd : IntKind} {lo hi : Int} {w wr : World} {A : Option Addr} {l : List Int}
theorem ArgN.at_ (h : ArgN kd lo hi w A l) (hb : Below w.heap.size w wr) {k : Nat} (hk : k < l.length) :
    ∃ b off x, A = some ⟨b, off, none⟩ ∧ b < w.heap.size ∧ l[k]? = some x ∧ (lo ≤ x ∧ x ≤ hi) ∧ wr.cell? ⟨b, off + k, none⟩ = some (.int kd x) := by
  obtain ⟨b, off, e, hlt, hc⟩ := h.2 (by omega)
  have hz := List.getElem?_eq_getElem hk
  exact ⟨b, off, _, e, hlt, hz, h.1 _ (List.mem_of_getElem? hz), (hb.cell (p := ⟨b, _, none⟩) hlt).trans (hc k _ hz)⟩
theorem ArgN.below (h : ArgN kd lo hi w A l) (hb : Below w.heap.size w wr) : ArgN kd lo hi wr A l :=
  ⟨h.1, fun h0 => by
    obtain ⟨b, off, e, hlt, hc⟩ := h.2 h0
    exact ⟨b, off, e, Nat.lt_of_lt_of_le hlt hb.size, fun i x hx => (hb.cell (p := ⟨b, _, none⟩) hlt).trans (hc i x hx)⟩⟩
theorem argN_of {W : World} {a : Addr} {len cap : Nat} {zs : List Int} (hl : len ≤ cap) (hz : zs.length = cap) (hcell : ∀ i, i < zs.length → W.cell? (a.add i) = some (.int kd (zs.getD i 0))) (hb : ∀ z ∈ zs, lo ≤ z ∧ z ≤ hi) :
    ∃ A l, (some a : Option Addr) = A ∧ l.length = len ∧ ArgN kd lo hi W A l := by
  have hlen : (zs.take len).length = len := by rw [List.length_take]; omega
  refine ⟨_, zs.take len, rfl, hlen, fun z hz => hb z (List.mem_of_mem_take hz), fun h0 => ?_⟩
  rw [hlen] at h0
  obtain ⟨b, off, spot⟩ := a
  have h1 := hcell 0 (by omega)
  have hs : spot = none := by simpa [Addr.add] using World.cell?_spot h1
  subst hs
  have hadd : ∀ j, (⟨b, off, none⟩ : Addr).add j = ⟨b, off + j, none⟩ := fun j => by unfold Addr.add; split <;> simp_all
  refine ⟨b, off, rfl, ?_, fun i z hi => ?_⟩
  · have := World.block_lt_of_cell? W _ h1
    rw [hadd] at this
    exact this
  · rw [List.getElem?_take] at hi
    split at hi
    · have h2 := hcell i (by omega)
      rw [hadd] at h2
      rw [h2, List.getD_eq_getElem?_getD, hi]; rfl
    · cases hi
end
end Go.Proofs.YtbbgnpnopodppaaDoor
