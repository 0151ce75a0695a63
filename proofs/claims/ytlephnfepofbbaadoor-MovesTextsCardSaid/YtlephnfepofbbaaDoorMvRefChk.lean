/-
  The document's may, May and All.
-/
import Derived.Test.YtlephnfepofbbaaDoorMvChk2
namespace Go.Proofs.YtlephnfepofbbaaDoor
open Go.RowKit

def wireB (op : Int) : Bool := decide (1 ≤ op) && decide (op ≤ 6)
theorem rwire_any (op : Int) (w : World) : Calls Tryd.prog 23 #[.int .i64 op] w fun e w' => e = .returned (.bool (hasW op)) ∧ w = w' := by
  have HR : Hid (∀ r : Bool, (r = true ↔ (1 ≤ op ∧ op ≤ 6)) → r = hasW op) := Lib.hid fun r h => by rw [Bool.eq_iff_iff, h]; unfold hasW; simp
  generalize hasW op = R at HR ⊢
  go_enter Tryd.func23, Tryd.ntmps23
  go_wp2
  all_goals go_ret
  all_goals exact ⟨ret_bool (HR.out _ (by simp <;> omega)), rfl⟩
theorem rnumber_any (op : Int) (w : World) : Calls Tryd.prog 24 #[.int .i64 op] w fun e w' => e = .returned (.bool (hasN op)) ∧ w = w' := by
  have HR : Hid (∀ r : Bool, (r = true ↔ (op = 2 ∨ op = 6 ∨ op = 7)) → r = hasN op) := Lib.hid fun r h => by rw [Bool.eq_iff_iff, h]; unfold hasN; simp
  generalize hasN op = R at HR ⊢
  go_enter Tryd.func24, Tryd.ntmps24
  go_wp2
  all_goals go_ret
  all_goals exact ⟨ret_bool (HR.out _ (by simp <;> omega)), rfl⟩

set_option maxHeartbeats 8000000 in
theorem rmay_any {D : Nat → Prop} (m : Mv) (dv : Value) (w : World) (hb : SrcB D w dv m.b) : Calls Tryd.prog 13 #[.agg #[.int .i64 m.op, .int .i64 m.wire, .int .i64 m.n, dv]] w fun e w' => e = .returned (.bool (mvOk m)) ∧ Below w.heap.size w w' := by
  obtain ⟨A, c, rfl, h1, h2, h3⟩ := hb.form
  have HOK : Hid (∀ r : Bool, (r = true ↔ (1 ≤ m.op ∧ m.op ≤ 7) ∧ 0 ≤ m.wire ∧ 0 ≤ m.n ∧ m.b.length ≤ 1000 ∧ (m.op ≤ 6 ∨ m.wire = 0) ∧ ((m.op = 2 ∨ m.op = 6 ∨ m.op = 7) ∨ m.n = 0) ∧ (m.op = 1 ↔ 0 < m.b.length)) → r = mvOk m) :=
    Lib.hid fun r h => by rw [Bool.eq_iff_iff, h, mvOk_iff]
  obtain ⟨L, hL⟩ : ∃ L, m.b.length = L := ⟨_, rfl⟩
  rw [hL] at HOK h1 ⊢
  clear hb hL h3
  generalize mvOk m = R at HOK ⊢
  obtain ⟨op, wire, n, b⟩ := m
  simp only [] at HOK ⊢
  clear b
  have hW : ∃ p, hasW op = p ∧ (p = true ↔ (1 ≤ op ∧ op ≤ 6)) := ⟨_, rfl, by unfold hasW; simp⟩
  have hN : ∃ p, hasN op = p ∧ (p = true ↔ (op = 2 ∨ op = 6 ∨ op = 7)) := ⟨_, rfl, by unfold hasN; simp⟩
  obtain ⟨p, hp, hp2⟩ := hW
  obtain ⟨q, hq, hq2⟩ := hN
  have HW := Lib.hid (fun w => hp ▸ rwire_any op w)
  have HN := Lib.hid (fun w => hq ▸ rnumber_any op w)
  have HP2 := Lib.hid hp2
  have HQ2 := Lib.hid hq2
  clear hp hq hp2 hq2
  cases p <;> cases q <;>
  (have P2 := HP2.out
   have Q2 := HQ2.out
   simp only [Bool.false_eq_true, false_iff, true_iff] at P2 Q2
   have HPQ := Lib.hid (And.intro P2 Q2)
   clear P2 Q2 HP2 HQ2
   go_enter Tryd.func13, Tryd.ntmps13
   go_wp2_with (first
     | (go_at_call 23; refine (HW.out _).mono ?_; rintro e w' ⟨rfl, rfl⟩)
     | (go_at_call 24; refine (HN.out _).mono ?_; rintro e w' ⟨rfl, rfl⟩))
   all_goals go_ret
   all_goals exact ⟨ret_bool (HOK.out _ (by have := HPQ.out; have hE : ((op == 1) = decide (0 < L)) ↔ (op = 1 ↔ 0 < L) := by { rw [Bool.eq_iff_iff]; simp }; simp <;> first | omega | (rw [hE]; omega))), (Below.refl _ _).alloc (Nat.le_refl _) _⟩)
theorem rmay_yes {D : Nat → Prop} (m : Mv) (dv : Value) (w : World) (hb : SrcB D w dv m.b) (h : mvOk m = true) : Calls Tryd.prog 13 #[.agg #[.int .i64 m.op, .int .i64 m.wire, .int .i64 m.n, dv]] w fun e w' => e = .returned (.bool true) ∧ Below w.heap.size w w' := by
  have := rmay_any m dv w hb; rwa [h] at this
theorem rmay_no {D : Nat → Prop} (m : Mv) (dv : Value) (w : World) (hb : SrcB D w dv m.b) (h : mvOk m = false) : Calls Tryd.prog 13 #[.agg #[.int .i64 m.op, .int .i64 m.wire, .int .i64 m.n, dv]] w fun e w' => e = .returned (.bool false) ∧ Below w.heap.size w w' := by
  have := rmay_any m dv w hb; rwa [h] at this
theorem stOk_no {x : St} (h : ¬ (x.mv.length ≤ 50 ∧ x.ord.length ≤ 50 ∧ (∀ n ∈ x.ord, 0 ≤ n ∧ n ≤ 999) ∧ ∀ m ∈ x.mv, mvOk m = true)) : stOk x = false := by
  cases e : stOk x with
  | false => rfl
  | true => exact absurd (stOk_parts e) h

set_option maxHeartbeats 8000000 in
theorem rMay_any (x : St) (ov mv : Value) (w : World) (hx : StepV (Lt w.heap.size) w ov mv x) :
    Calls Tryd.prog 6 #[.agg #[.int .u64 (x.t : Int), .bool x.intr, ov, mv]] w fun e w' => e = .returned (.bool (stOk x)) ∧ Below w.heap.size w w' := by
  obtain ⟨hO, hM⟩ := hx
  obtain ⟨t, intr, ord, ms⟩ := x
  obtain ⟨A, c, rfl, a1, a2, a3⟩ := hO.form
  obtain ⟨B, d, rfl, b1, b2, b3⟩ := hM.form
  have HNO : Hid (¬ (ms.length ≤ 50 ∧ ord.length ≤ 50 ∧ (∀ n ∈ ord, 0 ≤ n ∧ n ≤ 999) ∧ ∀ m ∈ ms, mvOk m = true) → stOk ⟨t, intr, ord, ms⟩ = false) := Lib.hid (fun h => stOk_no h)
  have HYES : Hid (ms.length ≤ 50 → ord.length ≤ 50 → (∀ n ∈ ord, 0 ≤ n ∧ n ≤ 999) → (∀ m ∈ ms, mvOk m = true) → stOk ⟨t, intr, ord, ms⟩ = true) := Lib.hid (fun h1 h2 h3 h4 => stOk_mk h1 h2 h3 h4)
  have HO := Lib.hid hO
  have HM := Lib.hid hM
  obtain ⟨n, hn⟩ : ∃ n, ord.length = n := ⟨_, rfl⟩
  obtain ⟨k, hk⟩ : ∃ k, ms.length = k := ⟨_, rfl⟩
  simp only [] at a1 b1 ⊢
  rw [hn] at a1 ⊢
  rw [hk] at b1 ⊢
  generalize stOk ⟨t, intr, ord, ms⟩ = R at HNO HYES ⊢
  have HN := Lib.hid hn
  have HK := Lib.hid hk
  clear hO hM hn hk a3 b3
  obtain ⟨W, hW⟩ : ∃ W, w.alloc (.cells #[.int .u64 (t : Int), .bool intr, .slice A n c, .slice B k d] 30) = W := ⟨_, rfl⟩
  have hBW : Below w.heap.size w W := by rw [← hW]; exact (Below.refl _ _).alloc (Nat.le_refl _) _
  have HBW := Lib.hid hBW
  have hsz : w.heap.size < W.heap.size := by rw [← hW]; simp
  have hblk : Blk W w.heap.size 30 #[.int .u64 (t : Int), .bool intr, .slice A n c, .slice B k d] := by rw [← hW]; exact Blk.new _ _ _
  have k2 := hblk.cell 2
  have k3 := hblk.cell 3
  have HBL := Lib.hid hblk
  simp at k2 k3
  have HW := Lib.hid hW
  clear hW hBW hblk
  by_cases h1 : 50 < k
  · have HR : Hid (R = false) := Lib.hid (HNO.out fun h => by have := HK.out; omega)
    have h1' : (50 : Int) < (k : Int) := by omega
    clear h1
    go_enter Tryd.func6, Tryd.ntmps6
    go_wp2_with fail
    go_ret
    exact ⟨ret_bool HR.out.symm, by rw [HW.out]; exact HBW.out⟩
  have h1' : ¬ (50 : Int) < (k : Int) := by omega
  by_cases h2 : 50 < n
  · have HR : Hid (R = false) := Lib.hid (HNO.out fun h => by have := HN.out; omega)
    have h2' : (50 : Int) < (n : Int) := by omega
    clear h1 h2
    go_enter Tryd.func6, Tryd.ntmps6
    go_wp2_with fail
    go_ret
    exact ⟨ret_bool HR.out.symm, by rw [HW.out]; exact HBW.out⟩
  have h2' : ¬ (50 : Int) < (n : Int) := by omega
  have n50 : n ≤ 50 := by omega
  have k50 : k ≤ 50 := by omega
  clear h1 h2
  go_enter Tryd.func6, Tryd.ntmps6
  go_wp2_with fail
  rw [HW.out]
  go_loop [3] (fun i => ∃ j : Nat, j ≤ n ∧ i = .int .i64 j ∧ Hid (∀ z ∈ ord.take j, 0 ≤ z ∧ z ≤ 999)) (fun i => n - (intOf i).toNat)
  case atStart => exact ⟨0, Nat.zero_le _, rfl, Lib.hid (fun z hz => by simp at hz)⟩
  case round =>
    obtain ⟨j, hj, rfl, HZ⟩ := hrel
    by_cases hlt : j < n
    · have hlt' : (j : Int) < (n : Int) := by omega
      have hjl : j < ord.length := by have := HN.out; omega
      obtain ⟨g, off, rfl, hg, hg2, hc⟩ := HO.out.at_ (k := j) hjl
      have hc := (HBW.out.cell (p := ⟨g, off + j, none⟩) hg).trans hc
      obtain ⟨z, hz⟩ : ∃ z, ord[j] = z := ⟨_, rfl⟩
      rw [hz] at hc
      have HZZ := Lib.hid hz
      clear hz hg hg2
      by_cases hz0 : z < 0
      · have HR : Hid (R = false) := Lib.hid (HNO.out fun h => by have := h.2.2.1 z (by rw [← HZZ.out]; exact List.getElem_mem _); omega)
        go_wp2_with fail
        go_ret
        exact ⟨ret_bool HR.out.symm, HBW.out⟩
      by_cases hz1 : 999 < z
      · have HR : Hid (R = false) := Lib.hid (HNO.out fun h => by have := h.2.2.1 z (by rw [← HZZ.out]; exact List.getElem_mem _); omega)
        go_wp2_with fail
        go_ret
        exact ⟨ret_bool HR.out.symm, HBW.out⟩
      have HZ2 : Hid (∀ z ∈ ord.take (j + 1), 0 ≤ z ∧ z ≤ 999) := Lib.hid (take_all hjl HZ.out (by rw [HZZ.out]; omega))
      go_wp2_with fail
      go_round
      case rel => exact ⟨j + 1, by omega, by go_num, HZ2⟩
      case measure => simp [intOf]; omega
    · obtain rfl : j = n := by omega
      have hlt' : ¬ (j : Int) < (j : Int) := by omega
      have HZ2 : Hid (∀ z ∈ ord, 0 ≤ z ∧ z ≤ 999) := Lib.hid (by have := HZ.out; rwa [List.take_of_length_le (by have := HN.out; omega)] at this)
      clear HZ hlt
      go_wp2_with fail
      go_loopw [4] (fun i wr => ∃ l : Nat, l ≤ k ∧ i = .int .i64 l ∧ Hid (∀ z ∈ ms.take l, mvOk z = true) ∧ Below W.heap.size W wr) (fun i _ => k - (intOf i).toNat)
      case atStart => exact ⟨0, Nat.zero_le _, rfl, Lib.hid (fun z hz => by simp at hz), Below.refl _ _⟩
      case round =>
        obtain ⟨l, hl, rfl, HM1, hb⟩ := hrel
        have HB := Lib.hid (HBW.out.trans (hb.mono HBW.out.size))
        have HBX := Lib.hid hb
        have k3 := (hb.cell (p := ⟨w.heap.size, 3, none⟩) hsz).trans k3
        by_cases hlt : l < k
        · have hlt' : (l : Int) < (k : Int) := by omega
          have hjl : l < ms.length := by have := HK.out; omega
          obtain ⟨g, off, dv, rfl, hg, hg2, ⟨q0, q1, q2, q3⟩, hS⟩ := HM.out.at_ (k := l) hjl
          have q0 := (HB.out.cell (p := ⟨g, off + l * 4, none⟩) hg).trans q0
          have q1 := (HB.out.cell (p := ⟨g, off + l * 4 + 1, none⟩) hg).trans q1
          have q2 := (HB.out.cell (p := ⟨g, off + l * 4 + 2, none⟩) hg).trans q2
          have q3 := (HB.out.cell (p := ⟨g, off + l * 4 + 3, none⟩) hg).trans q3
          obtain ⟨z, hz⟩ : ∃ z, ms[l] = z := ⟨_, rfl⟩
          rw [hz] at q0 q1 q2 hS
          obtain ⟨E, e, rfl, e1, e2, e3⟩ := hS.form
          have hS := hS.below HB.out
          clear e1 e2 e3
          have HZZ := Lib.hid hz
          clear hz hg hg2 hb
          cases hv : mvOk z with
          | false =>
            have HR : Hid (R = false) := Lib.hid (HNO.out fun h => by have := h.2.2.2 z (by rw [← HZZ.out]; exact List.getElem_mem _); rw [hv] at this; cases this)
            have HC := Lib.hid (rmay_no z _ _ hS hv)
            clear hv hS
            go_wp2_with (go_at_call 13; refine HC.out.mono ?_; rintro e w1 ⟨rfl, hb1⟩)
            go_ret
            exact ⟨ret_bool HR.out.symm, HB.out.trans (hb1.mono HB.out.size)⟩
          | true =>
            have HM2 : Hid (∀ z ∈ ms.take (l + 1), mvOk z = true) := Lib.hid (take_all hjl HM1.out (by rw [HZZ.out]; exact hv))
            have HC := Lib.hid (rmay_yes z _ _ hS hv)
            clear hv hS
            go_wp2_with (go_at_call 13; refine HC.out.mono ?_; rintro e w1 ⟨rfl, hb1⟩)
            go_roundw
            case rel => exact ⟨l + 1, by omega, by go_num, HM2, HBX.out.trans (hb1.mono HBX.out.size)⟩
            case measure => simp [intOf]; omega
        · obtain rfl : l = k := by omega
          have hlt' : ¬ (l : Int) < (l : Int) := by omega
          have HR : Hid (R = true) := Lib.hid (HYES.out (by have := HK.out; omega) (by have := HN.out; omega) HZ2.out (by have := HM1.out; rwa [List.take_of_length_le (by have := HK.out; omega)] at this))
          clear hb
          go_wp2_with fail
          go_ret
          exact ⟨ret_bool HR.out.symm, HB.out⟩

theorem rMay_yes {N : Nat} (x : St) (ov mv : Value) (w : World) (hN : N ≤ w.heap.size) (hx : StepV (Lt N) w ov mv x) (h : stOk x = true) :
    Calls Tryd.prog 6 #[.agg #[.int .u64 (x.t : Int), .bool x.intr, ov, mv]] w fun e w' => e = .returned (.bool true) ∧ Below w.heap.size w w' := by
  have := rMay_any x ov mv w (hx.weak fun g _ h => Nat.lt_of_lt_of_le h hN)
  rwa [h] at this
theorem rMay_no {N : Nat} (x : St) (ov mv : Value) (w : World) (hN : N ≤ w.heap.size) (hx : StepV (Lt N) w ov mv x) (h : stOk x = false) :
    Calls Tryd.prog 6 #[.agg #[.int .u64 (x.t : Int), .bool x.intr, ov, mv]] w fun e w' => e = .returned (.bool false) ∧ Below w.heap.size w w' := by
  have := rMay_any x ov mv w (hx.weak fun g _ h => Nat.lt_of_lt_of_le h hN)
  rwa [h] at this
theorem allOk_no {l : List St} (h : ¬ (l.length ≤ 2000 ∧ ∀ x ∈ l, stOk x = true)) : allOk l = false := by
  cases e : allOk l with
  | false => rfl
  | true => exact absurd (allOk_parts e) h

set_option maxHeartbeats 8000000 in
theorem rAll_any (l : List St) (v : Value) (w : World) (hx : SrcS (Lt w.heap.size) w v l) :
    Calls Tryd.prog 16 #[v] w fun e w' => e = .returned (.bool (allOk l)) ∧ Below w.heap.size w w' := by
  obtain ⟨A, c, rfl, a1, a2, a3⟩ := hx.form
  have HNO : Hid (¬ (l.length ≤ 2000 ∧ ∀ x ∈ l, stOk x = true) → allOk l = false) := Lib.hid (fun h => allOk_no h)
  have HYES : Hid (l.length ≤ 2000 → (∀ x ∈ l, stOk x = true) → allOk l = true) := Lib.hid (fun h1 h2 => allOk_mk h1 h2)
  have HX := Lib.hid hx
  obtain ⟨n, hn⟩ : ∃ n, l.length = n := ⟨_, rfl⟩
  rw [hn] at a1 ⊢
  generalize allOk l = R at HNO HYES ⊢
  have HN := Lib.hid hn
  clear hx hn a3
  by_cases h1 : 2000 < n
  · have HR : Hid (R = false) := Lib.hid (HNO.out fun h => by have := HN.out; omega)
    have h1' : (2000 : Int) < (n : Int) := by omega
    clear h1
    go_enter Tryd.func16, Tryd.ntmps16
    go_wp2_with fail
    go_ret
    exact ⟨ret_bool HR.out.symm, Below.refl _ _⟩
  have h1' : ¬ (2000 : Int) < (n : Int) := by omega
  go_enter Tryd.func16, Tryd.ntmps16
  go_wp2_with fail
  go_loopw [3] (fun i wr => ∃ j : Nat, j ≤ n ∧ i = .int .i64 j ∧ Hid (∀ z ∈ l.take j, stOk z = true) ∧ Below w.heap.size w wr) (fun i _ => n - (intOf i).toNat)
  case atStart => exact ⟨0, Nat.zero_le _, rfl, Lib.hid (fun z hz => by simp at hz), Below.refl _ _⟩
  case round =>
    obtain ⟨j, hj, rfl, HM1, hb⟩ := hrel
    have HB := Lib.hid hb
    by_cases hlt : j < n
    · have hlt' : (j : Int) < (n : Int) := by omega
      have hjl : j < l.length := by have := HN.out; omega
      obtain ⟨g, off, ov, mv, rfl, hg, hg2, ⟨q0, q1, q2, q3⟩, hS⟩ := HX.out.at_ (k := j) hjl
      have q0 := (hb.cell (p := ⟨g, off + j * 4, none⟩) hg).trans q0
      have q1 := (hb.cell (p := ⟨g, off + j * 4 + 1, none⟩) hg).trans q1
      have q2 := (hb.cell (p := ⟨g, off + j * 4 + 2, none⟩) hg).trans q2
      have q3 := (hb.cell (p := ⟨g, off + j * 4 + 3, none⟩) hg).trans q3
      obtain ⟨z, hz⟩ : ∃ z, l[j] = z := ⟨_, rfl⟩
      rw [hz] at q0 q1 hS
      obtain ⟨E, e2, F, f2, rfl, rfl⟩ := hS.forms
      have hS := hS.below hb
      have HZZ := Lib.hid hz
      clear hz hg hg2 hb
      cases hv : stOk z with
      | false =>
        have HR : Hid (R = false) := Lib.hid (HNO.out fun h => by have := h.2 z (by rw [← HZZ.out]; exact List.getElem_mem _); rw [hv] at this; cases this)
        have HC := Lib.hid (rMay_no z _ _ _ HB.out.size hS hv)
        clear hv hS
        go_wp2_with (go_at_call 6; refine HC.out.mono ?_; rintro e w1 ⟨rfl, hb1⟩)
        go_ret
        exact ⟨ret_bool HR.out.symm, HB.out.trans (hb1.mono HB.out.size)⟩
      | true =>
        have HM2 : Hid (∀ z ∈ l.take (j + 1), stOk z = true) := Lib.hid (take_all hjl HM1.out (by rw [HZZ.out]; exact hv))
        have HC := Lib.hid (rMay_yes z _ _ _ HB.out.size hS hv)
        clear hv hS
        go_wp2_with (go_at_call 6; refine HC.out.mono ?_; rintro e w1 ⟨rfl, hb1⟩)
        go_roundw
        case rel => exact ⟨j + 1, by omega, by go_num, HM2, HB.out.trans (hb1.mono HB.out.size)⟩
        case measure => simp [intOf]; omega
    · obtain rfl : j = n := by omega
      have hlt' : ¬ (j : Int) < (j : Int) := by omega
      have HR : Hid (R = true) := Lib.hid (HYES.out (by have := HN.out; omega) (by have := HM1.out; rwa [List.take_of_length_le (by have := HN.out; omega)] at this))
      clear hb
      go_wp2_with fail
      go_ret
      exact ⟨ret_bool HR.out.symm, HB.out⟩
end Go.Proofs.YtlephnfepofbbaaDoor
