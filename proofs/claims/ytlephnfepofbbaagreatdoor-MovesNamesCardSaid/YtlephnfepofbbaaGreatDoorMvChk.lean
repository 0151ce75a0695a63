/-
  Whether steps may be: the program's valid, Check and checkAll, the document's may, May and All.
-/
import Derived.Test.YtlephnfepofbbaaGreatDoorMsBase
namespace Go.Proofs.YtlephnfepofbbaaGreatDoor
open Go.RowKit

/-- The table of the moves' fields, as it lies. -/
structure TabF (W : World) : Prop where
  lt : 0 < W.heap.size
  c0 : W.cell? ⟨0, 0, none⟩ = some (.int .i64 0)
  c1 : W.cell? ⟨0, 1, none⟩ = some (.int .i64 5)
  c2 : W.cell? ⟨0, 2, none⟩ = some (.int .i64 3)
  c3 : W.cell? ⟨0, 3, none⟩ = some (.int .i64 1)
  c4 : W.cell? ⟨0, 4, none⟩ = some (.int .i64 1)
  c5 : W.cell? ⟨0, 5, none⟩ = some (.int .i64 1)
  c6 : W.cell? ⟨0, 6, none⟩ = some (.int .i64 3)
  c7 : W.cell? ⟨0, 7, none⟩ = some (.int .i64 2)
theorem TabF.same {W W' : World} (h : TabF W) (e : W'.heap[0]? = W.heap[0]?) (hs : W.heap.size ≤ W'.heap.size) : TabF W' := by
  have c : ∀ i v, W.cell? ⟨0, i, none⟩ = some v → W'.cell? ⟨0, i, none⟩ = some v := fun i v hv => (World.cell?_of_block e).trans hv
  exact ⟨Nat.lt_of_lt_of_le h.lt hs, c _ _ h.c0, c _ _ h.c1, c _ _ h.c2, c _ _ h.c3, c _ _ h.c4, c _ _ h.c5, c _ _ h.c6, c _ _ h.c7⟩
theorem TabF.below {W W' : World} (h : TabF W) (b : Below W.heap.size W W') : TabF W' := h.same (b.block _ h.lt) b.size
def fldF (op : Int) : Int := if op = 1 then 5 else if op = 2 ∨ op = 6 then 3 else if op = 7 then 2 else if 3 ≤ op ∧ op ≤ 5 then 1 else 0
theorem retb {a b : Bool} (h : a = b) : Ending.returned (.bool a) = .returned (.bool b) := by rw [h]
theorem mvOk_iff (m : Mo) : mvOk m = true ↔ (1 ≤ m.op ∧ m.op ≤ 7) ∧ 0 ≤ m.wire ∧ 0 ≤ m.n ∧ m.b.length ≤ 1000 ∧ (m.op ≤ 6 ∨ m.wire = 0) ∧ ((m.op = 2 ∨ m.op = 6 ∨ m.op = 7) ∨ m.n = 0) ∧ (m.op = 1 ↔ 0 < m.b.length) := by
  obtain ⟨op, wire, n, b⟩ := m
  unfold mvOk hasW hasN
  have hb : (!b.isEmpty) = decide (0 < b.length) := by cases b <;> simp
  simp only [hb, Bool.and_eq_true, Bool.or_eq_true, decide_eq_true_eq, beq_iff_eq]
  have : (decide (op = 1) = decide (0 < b.length)) ↔ (op = 1 ↔ 0 < b.length) := decide_eq_decide
  rw [this]
  omega

set_option maxHeartbeats 4000000 in
theorem fields_any (op : Int) (w : World) (hT : TabF w) : Calls Tryz.prog 57 #[.int .i64 op] w fun e w' => e = .returned (.int .i64 (fldF op)) ∧ w = w' := by
  by_cases h0 : op < 0
  · have hf : fldF op = 0 := by unfold fldF; rw [if_neg (by omega), if_neg (by omega), if_neg (by omega), if_neg (by omega)]
    rw [hf]
    clear hf hT
    go_enter Tryz.func57, Tryz.ntmps57
    go_wp2
    go_ret
    exact ⟨rfl, rfl⟩
  by_cases h8 : 8 ≤ op
  · have hf : fldF op = 0 := by unfold fldF; rw [if_neg (by omega), if_neg (by omega), if_neg (by omega), if_neg (by omega)]
    rw [hf]
    clear hf hT
    go_enter Tryz.func57, Tryz.ntmps57
    go_wp2
    go_ret
    exact ⟨rfl, rfl⟩
  obtain ⟨lt, c0, c1, c2, c3, c4, c5, c6, c7⟩ := hT
  have hc : op = 0 ∨ op = 1 ∨ op = 2 ∨ op = 3 ∨ op = 4 ∨ op = 5 ∨ op = 6 ∨ op = 7 := by omega
  clear h0 h8
  rcases hc with rfl | rfl | rfl | rfl | rfl | rfl | rfl | rfl <;>
    (go_enter Tryz.func57, Tryz.ntmps57
     go_wp2
     go_ret
     exact ⟨rfl, rfl⟩)

theorem fld_bits (op : Int) (h : 1 ≤ op ∧ op ≤ 7) : ∃ f p q r, fldF op = f ∧ (f == 0) = false ∧ (bits .and .i64 f 1 == 0) = p ∧ (bits .and .i64 f 2 == 0) = q ∧ (bits .and .i64 f 4 == 0) = r ∧
    ((p = false ∧ q = true ∧ r = false ∧ op = 1) ∨ (p = false ∧ q = false ∧ r = true ∧ (op = 2 ∨ op = 6)) ∨ (p = false ∧ q = true ∧ r = true ∧ (op = 3 ∨ op = 4 ∨ op = 5)) ∨ (p = true ∧ q = false ∧ r = true ∧ op = 7)) := by
  have hc : op = 1 ∨ op = 2 ∨ op = 3 ∨ op = 4 ∨ op = 5 ∨ op = 6 ∨ op = 7 := by omega
  rcases hc with rfl | rfl | rfl | rfl | rfl | rfl | rfl
  · exact ⟨5, false, true, false, rfl, rfl, by kernel_rfl, by kernel_rfl, by kernel_rfl, by simp⟩
  · exact ⟨3, false, false, true, rfl, rfl, by kernel_rfl, by kernel_rfl, by kernel_rfl, by simp⟩
  · exact ⟨1, false, true, true, rfl, rfl, by kernel_rfl, by kernel_rfl, by kernel_rfl, by simp⟩
  · exact ⟨1, false, true, true, rfl, rfl, by kernel_rfl, by kernel_rfl, by kernel_rfl, by simp⟩
  · exact ⟨1, false, true, true, rfl, rfl, by kernel_rfl, by kernel_rfl, by kernel_rfl, by simp⟩
  · exact ⟨3, false, false, true, rfl, rfl, by kernel_rfl, by kernel_rfl, by kernel_rfl, by simp⟩
  · exact ⟨2, true, false, true, rfl, rfl, by kernel_rfl, by kernel_rfl, by kernel_rfl, by simp⟩

set_option maxHeartbeats 8000000 in
theorem valid_any {D : Nat → Prop} (m : Mo) (dv : Value) (w : World) (hT : TabF w) (hb : SrcB D w dv m.b) : Calls Tryz.prog 25 #[.agg #[.int .i64 m.op, .int .i64 m.wire, .int .i64 m.n, dv]] w fun e w' => e = .returned (.bool (mvOk m)) ∧ Below w.heap.size w w' := by
  obtain ⟨A, c, rfl, h1, h2, h3⟩ := hb.form
  have hF := fields_any m.op (w.alloc (.cells #[.int .i64 m.op, .int .i64 m.wire, .int .i64 m.n, .slice A m.b.length c] 25)) (hT.below ((Below.refl _ _).alloc (Nat.le_refl _) _))
  have HOK : Hid (∀ r : Bool, (r = true ↔ (1 ≤ m.op ∧ m.op ≤ 7) ∧ 0 ≤ m.wire ∧ 0 ≤ m.n ∧ m.b.length ≤ 1000 ∧ (m.op ≤ 6 ∨ m.wire = 0) ∧ ((m.op = 2 ∨ m.op = 6 ∨ m.op = 7) ∨ m.n = 0) ∧ (m.op = 1 ↔ 0 < m.b.length)) → r = mvOk m) :=
    Lib.hid fun r h => by rw [Bool.eq_iff_iff, h, mvOk_iff]
  obtain ⟨L, hL⟩ : ∃ L, m.b.length = L := ⟨_, rfl⟩
  rw [hL] at HOK hF h1 ⊢
  clear hb hL h3
  generalize mvOk m = R at HOK ⊢
  obtain ⟨op, wire, n, b⟩ := m
  simp only [] at HOK hF ⊢
  clear b
  by_cases hop : 1 ≤ op ∧ op ≤ 7
  · obtain ⟨f, p, q, r, hf, z0, z1, z2, z3, hcase⟩ := fld_bits op hop
    rw [hf] at hF
    have HF := Lib.hid hF
    have HC := Lib.hid hcase
    clear hF hT hf hop hcase
    rcases HC.out with ⟨rfl, rfl, rfl, hc⟩ | ⟨rfl, rfl, rfl, hc⟩ | ⟨rfl, rfl, rfl, hc⟩ | ⟨rfl, rfl, rfl, hc⟩ <;>
    (have HC2 := Lib.hid hc
     clear hc HC
     go_enter Tryz.func25, Tryz.ntmps25
     go_wp2_with (go_at_call 57; refine HF.out.mono ?_; rintro e w' ⟨rfl, rfl⟩)
     all_goals go_ret
     all_goals exact ⟨retb (HOK.out _ (by have := HC2.out; simp <;> omega)), (Below.refl _ _).alloc (Nat.le_refl _) _⟩)
  · have hf : fldF op = 0 := by unfold fldF; rw [if_neg (by omega), if_neg (by omega), if_neg (by omega), if_neg (by omega)]
    rw [hf] at hF
    have HF := Lib.hid hF
    have HR := Lib.hid hop
    clear hF hT hop hf
    go_enter Tryz.func25, Tryz.ntmps25
    go_wp2_with (go_at_call 57; refine HF.out.mono ?_; rintro e w' ⟨rfl, rfl⟩)
    go_ret
    exact ⟨retb (HOK.out _ (by have := HR.out; simp; omega)), (Below.refl _ _).alloc (Nat.le_refl _) _⟩
end Go.Proofs.YtlephnfepofbbaaGreatDoor
