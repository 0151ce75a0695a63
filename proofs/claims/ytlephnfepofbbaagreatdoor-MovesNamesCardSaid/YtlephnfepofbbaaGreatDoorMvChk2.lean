/-
  Check and checkAll.
-/
import Derived.Test.YtlephnfepofbbaaGreatDoorMvChk
namespace Go.Proofs.YtlephnfepofbbaaGreatDoor
open Go.RowKit

def chkE (x : St) : Int := if stOk x = true then 0 else 120
def allE (l : List St) : Int := if allOk l = true then 0 else 120
theorem chkE_no {x : St} (h : ¬ (x.mv.length ≤ 50 ∧ x.ord.length ≤ 50 ∧ (∀ n ∈ x.ord, 0 ≤ n ∧ n ≤ 999) ∧ ∀ m ∈ x.mv, mvOk m = true)) : chkE x = 120 := by
  unfold chkE
  rw [if_neg (fun e => h (stOk_parts e))]
theorem stOk_mk {x : St} (h1 : x.mv.length ≤ 50) (h2 : x.ord.length ≤ 50) (h3 : ∀ n ∈ x.ord, 0 ≤ n ∧ n ≤ 999) (h4 : ∀ m ∈ x.mv, mvOk m = true) : stOk x = true := by
  unfold stOk ordOk
  simp only [Bool.and_eq_true, decide_eq_true_eq, List.all_eq_true]
  exact ⟨h1, h2, h3, h4⟩
theorem chkE_yes {x : St} (h1 : x.mv.length ≤ 50) (h2 : x.ord.length ≤ 50) (h3 : ∀ n ∈ x.ord, 0 ≤ n ∧ n ≤ 999) (h4 : ∀ m ∈ x.mv, mvOk m = true) : chkE x = 0 := by
  unfold chkE
  rw [if_pos (stOk_mk h1 h2 h3 h4)]
theorem take_all {α : Type} {p : α → Prop} {l : List α} {k : Nat} (hk : k < l.length) (h : ∀ x ∈ l.take k, p x) (hx : p l[k]) : ∀ x ∈ l.take (k + 1), p x := fun x hm => by
  rw [List.take_add_one, List.getElem?_eq_getElem hk] at hm
  rcases List.mem_append.1 hm with hm | hm
  · exact h x hm
  · have : x = l[k] := by simpa using hm
    rw [this]; exact hx
theorem reti {k : IntKind} {a b : Int} (h : a = b) : Ending.returned (.int k a) = .returned (.int k b) := by rw [h]
theorem valid_yes {D : Nat → Prop} (m : Mo) (dv : Value) (w : World) (hT : TabF w) (hb : SrcB D w dv m.b) (h : mvOk m = true) : Calls Tryz.prog 25 #[.agg #[.int .i64 m.op, .int .i64 m.wire, .int .i64 m.n, dv]] w fun e w' => e = .returned (.bool true) ∧ Below w.heap.size w w' := by
  have := valid_any m dv w hT hb; rwa [h] at this
theorem valid_no {D : Nat → Prop} (m : Mo) (dv : Value) (w : World) (hT : TabF w) (hb : SrcB D w dv m.b) (h : mvOk m = false) : Calls Tryz.prog 25 #[.agg #[.int .i64 m.op, .int .i64 m.wire, .int .i64 m.n, dv]] w fun e w' => e = .returned (.bool false) ∧ Below w.heap.size w w' := by
  have := valid_any m dv w hT hb; rwa [h] at this

set_option maxHeartbeats 8000000 in
theorem check_any (x : St) (ov mv : Value) (w : World) (hT : TabF w) (hx : StepV (Lt w.heap.size) w ov mv x) :
    Calls Tryz.prog 9 #[.agg #[.int .u64 (x.t : Int), .bool x.intr, ov, mv]] w fun e w' => e = .returned (.int .i64 (chkE x)) ∧ Below w.heap.size w w' := by
  obtain ⟨hO, hM⟩ := hx
  obtain ⟨t, intr, ord, ms⟩ := x
  obtain ⟨A, c, rfl, a1, a2, a3⟩ := hO.form
  obtain ⟨B, d, rfl, b1, b2, b3⟩ := hM.form
  have HNO : Hid (¬ (ms.length ≤ 50 ∧ ord.length ≤ 50 ∧ (∀ n ∈ ord, 0 ≤ n ∧ n ≤ 999) ∧ ∀ m ∈ ms, mvOk m = true) → chkE ⟨t, intr, ord, ms⟩ = 120) := Lib.hid (fun h => chkE_no h)
  have HYES : Hid (ms.length ≤ 50 → ord.length ≤ 50 → (∀ n ∈ ord, 0 ≤ n ∧ n ≤ 999) → (∀ m ∈ ms, mvOk m = true) → chkE ⟨t, intr, ord, ms⟩ = 0) := Lib.hid (fun h1 h2 h3 h4 => chkE_yes h1 h2 h3 h4)
  have HO := Lib.hid hO
  have HM := Lib.hid hM
  have HT := Lib.hid hT
  obtain ⟨n, hn⟩ : ∃ n, ord.length = n := ⟨_, rfl⟩
  obtain ⟨k, hk⟩ : ∃ k, ms.length = k := ⟨_, rfl⟩
  simp only [] at a1 b1 ⊢
  rw [hn] at a1 ⊢
  rw [hk] at b1 ⊢
  generalize chkE ⟨t, intr, ord, ms⟩ = R at HNO HYES ⊢
  have HN := Lib.hid hn
  have HK := Lib.hid hk
  clear hO hM hT hn hk a3 b3
  obtain ⟨W, hW⟩ : ∃ W, w.alloc (.cells #[.int .u64 (t : Int), .bool intr, .slice A n c, .slice B k d] 36) = W := ⟨_, rfl⟩
  have hBW : Below w.heap.size w W := by rw [← hW]; exact (Below.refl _ _).alloc (Nat.le_refl _) _
  have HBW := Lib.hid hBW
  have hblk : Blk W w.heap.size 36 #[.int .u64 (t : Int), .bool intr, .slice A n c, .slice B k d] := by rw [← hW]; exact Blk.new _ _ _
  have k2 := hblk.cell 2
  have k3 := hblk.cell 3
  have HBL := Lib.hid hblk
  simp at k2 k3
  have HW := Lib.hid hW
  clear hW hBW hblk
  by_cases h1 : 50 < k
  · have HR : Hid (R = 120) := Lib.hid (HNO.out fun h => by have := HK.out; omega)
    have h1' : (50 : Int) < (k : Int) := by omega
    clear h1
    go_enter Tryz.func9, Tryz.ntmps9
    go_wp2_with fail
    go_ret
    exact ⟨reti HR.out.symm, by rw [HW.out]; exact HBW.out⟩
  have h1' : ¬ (50 : Int) < (k : Int) := by omega
  by_cases h2 : 50 < n
  · have HR : Hid (R = 120) := Lib.hid (HNO.out fun h => by have := HN.out; omega)
    have h2' : (50 : Int) < (n : Int) := by omega
    clear h1 h2
    go_enter Tryz.func9, Tryz.ntmps9
    go_wp2_with fail
    go_ret
    exact ⟨reti HR.out.symm, by rw [HW.out]; exact HBW.out⟩
  have h2' : ¬ (50 : Int) < (n : Int) := by omega
  have n50 : n ≤ 50 := by omega
  have k50 : k ≤ 50 := by omega
  clear h1 h2
  go_enter Tryz.func9, Tryz.ntmps9
  go_wp2_with fail
  rw [HW.out]
  go_loop [20] (fun i => ∃ j : Nat, j ≤ n ∧ i = .int .i64 j ∧ Hid (∀ z ∈ ord.take j, 0 ≤ z ∧ z ≤ 999)) (fun i => n - (intOf i).toNat)
  case atStart => exact ⟨0, Nat.zero_le _, rfl, Lib.hid (fun z hz => by simp at hz)⟩
  case round =>
    obtain ⟨j, hj, rfl, HZ⟩ := hrel
    by_cases hlt : j < n
    · have hlt' : (j : Int) < (n : Int) := by omega
      have hjl : j < ord.length := by have := HN.out; omega
      obtain ⟨g, off, rfl, hg, hg2, hc⟩ := HO.out.at_ (k := j) hjl
      have hc := (HBW.out.cell (p := ⟨g, off + j, none⟩) hg).trans hc
      obtain ⟨z, hz⟩ : ∃ z, ord[j] = z := ⟨_, rfl⟩
      rw [hz] at hc
      have HZZ := Lib.hid hz
      clear hz hg hg2
      by_cases hz0 : z < 0
      · have HR : Hid (R = 120) := Lib.hid (HNO.out fun h => by have := h.2.2.1 z (by rw [← HZZ.out]; exact List.getElem_mem _); omega)
        go_wp2_with fail
        go_ret
        exact ⟨reti HR.out.symm, HBW.out⟩
      by_cases hz1 : 999 < z
      · have HR : Hid (R = 120) := Lib.hid (HNO.out fun h => by have := h.2.2.1 z (by rw [← HZZ.out]; exact List.getElem_mem _); omega)
        go_wp2_with fail
        go_ret
        exact ⟨reti HR.out.symm, HBW.out⟩
      have HZ2 : Hid (∀ z ∈ ord.take (j + 1), 0 ≤ z ∧ z ≤ 999) := Lib.hid (take_all hjl HZ.out (by rw [HZZ.out]; omega))
      go_wp2_with fail
      go_round
      case rel => exact ⟨j + 1, by omega, by go_num, HZ2⟩
      case measure => simp [intOf]; omega
    · obtain rfl : j = n := by omega
      have hlt' : ¬ (j : Int) < (j : Int) := by omega
      have HZ2 : Hid (∀ z ∈ ord, 0 ≤ z ∧ z ≤ 999) := Lib.hid (by have := HZ.out; rwa [List.take_of_length_le (by have := HN.out; omega)] at this)
      clear HZ hlt
      go_wp2_with fail
      go_loopw [34] (fun i wr => ∃ l : Nat, l ≤ k ∧ i = .int .i64 l ∧ Hid (∀ z ∈ ms.take l, mvOk z = true) ∧ Below w.heap.size w wr) (fun i _ => k - (intOf i).toNat)
      case atStart => exact ⟨0, Nat.zero_le _, rfl, Lib.hid (fun z hz => by simp at hz), HBW.out⟩
      case round =>
        obtain ⟨l, hl, rfl, HM1, hb⟩ := hrel
        have HB := Lib.hid hb
        by_cases hlt : l < k
        · have hlt' : (l : Int) < (k : Int) := by omega
          have hjl : l < ms.length := by have := HK.out; omega
          obtain ⟨g, off, dv, rfl, hg, hg2, ⟨q0, q1, q2, q3⟩, hS⟩ := HM.out.at_ (k := l) hjl
          have q0 := (hb.cell (p := ⟨g, off + l * 4, none⟩) hg).trans q0
          have q1 := (hb.cell (p := ⟨g, off + l * 4 + 1, none⟩) hg).trans q1
          have q2 := (hb.cell (p := ⟨g, off + l * 4 + 2, none⟩) hg).trans q2
          have q3 := (hb.cell (p := ⟨g, off + l * 4 + 3, none⟩) hg).trans q3
          obtain ⟨z, hz⟩ : ∃ z, ms[l] = z := ⟨_, rfl⟩
          rw [hz] at q0 q1 q2 hS
          obtain ⟨E, e, rfl, e1, e2, e3⟩ := hS.form
          clear e1 e2 e3
          have HZZ := Lib.hid hz
          have HS := Lib.hid hS
          clear hz hg hg2 hS hb
          cases hv : mvOk z with
          | false =>
            have HR : Hid (R = 120) := Lib.hid (HNO.out fun h => by have := h.2.2.2 z (by rw [← HZZ.out]; exact List.getElem_mem _); rw [hv] at this; cases this)
            have HV := Lib.hid hv
            clear hv
            go_wp2_with (go_at_call 25; refine (valid_no (D := Lt w.heap.size) z _ _ ?_ ?_ HV.out).mono ?_; exact (HT.out.below (HB.out.alloc HB.out.size _)); exact (HS.out.below (HB.out.alloc HB.out.size _)); rintro e w1 ⟨rfl, hb1⟩)
            go_ret
            exact ⟨reti HR.out.symm, (HB.out.alloc HB.out.size _).trans (hb1.mono (by have := HB.out.size; simp; omega))⟩
          | true =>
            have HV := Lib.hid hv
            clear hv
            have HM2 : Hid (∀ z ∈ ms.take (l + 1), mvOk z = true) := Lib.hid (take_all hjl HM1.out (by rw [HZZ.out]; exact HV.out))
            go_wp2_with (go_at_call 25; refine (valid_yes (D := Lt w.heap.size) z _ _ ?_ ?_ HV.out).mono ?_; exact (HT.out.below (HB.out.alloc HB.out.size _)); exact (HS.out.below (HB.out.alloc HB.out.size _)); rintro e w1 ⟨rfl, hb1⟩)
            go_roundw
            case rel => exact ⟨l + 1, by omega, by go_num, HM2, (HB.out.alloc HB.out.size _).trans (hb1.mono (by have := HB.out.size; simp; omega))⟩
            case measure => simp [intOf]; omega
        · obtain rfl : l = k := by omega
          have hlt' : ¬ (l : Int) < (l : Int) := by omega
          have HR : Hid (R = 0) := Lib.hid (HYES.out (by have := HK.out; omega) (by have := HN.out; omega) HZ2.out (by have := HM1.out; rwa [List.take_of_length_le (by have := HK.out; omega)] at this))
          clear hb
          go_wp2_with fail
          go_ret
          exact ⟨reti HR.out.symm, HB.out⟩

theorem mchk_yes {N : Nat} (x : St) (ov mv : Value) (w : World) (hT : TabF w) (hN : N ≤ w.heap.size) (hx : StepV (Lt N) w ov mv x) (h : stOk x = true) :
    Calls Tryz.prog 9 #[.agg #[.int .u64 (x.t : Int), .bool x.intr, ov, mv]] w fun e w' => e = .returned (.int .i64 0) ∧ Below w.heap.size w w' := by
  have := check_any x ov mv w hT (hx.weak fun g _ h => Nat.lt_of_lt_of_le h hN)
  unfold chkE at this; rwa [if_pos h] at this
theorem mchk_no {N : Nat} (x : St) (ov mv : Value) (w : World) (hT : TabF w) (hN : N ≤ w.heap.size) (hx : StepV (Lt N) w ov mv x) (h : stOk x = false) :
    Calls Tryz.prog 9 #[.agg #[.int .u64 (x.t : Int), .bool x.intr, ov, mv]] w fun e w' => e = .returned (.int .i64 120) ∧ Below w.heap.size w w' := by
  have := check_any x ov mv w hT (hx.weak fun g _ h => Nat.lt_of_lt_of_le h hN)
  unfold chkE at this; rwa [if_neg (by rw [h]; simp)] at this
theorem allE_no {l : List St} (h : ¬ (l.length ≤ 2000 ∧ ∀ x ∈ l, stOk x = true)) : allE l = 120 := by
  unfold allE
  rw [if_neg (fun e => h (allOk_parts e))]
theorem allE_yes {l : List St} (h1 : l.length ≤ 2000) (h2 : ∀ x ∈ l, stOk x = true) : allE l = 0 := by
  unfold allE
  rw [if_pos (allOk_mk h1 h2)]
/-- Slices' values in a step's cells. -/
theorem StepV.forms {D : Nat → Prop} {W : World} {ov mv : Value} {x : St} (h : StepV D W ov mv x) : ∃ A c B d, ov = .slice A x.ord.length c ∧ mv = .slice B x.mv.length d := by
  obtain ⟨A, c, e, _⟩ := h.1.form
  obtain ⟨B, d, e2, _⟩ := h.2.form
  exact ⟨A, c, B, d, e, e2⟩

set_option maxHeartbeats 8000000 in
theorem checkAll_any (l : List St) (v : Value) (w : World) (hT : TabF w) (hx : SrcS (Lt w.heap.size) w v l) :
    Calls Tryz.prog 36 #[v] w fun e w' => e = .returned (.int .i64 (allE l)) ∧ Below w.heap.size w w' := by
  obtain ⟨A, c, rfl, a1, a2, a3⟩ := hx.form
  have HNO : Hid (¬ (l.length ≤ 2000 ∧ ∀ x ∈ l, stOk x = true) → allE l = 120) := Lib.hid (fun h => allE_no h)
  have HYES : Hid (l.length ≤ 2000 → (∀ x ∈ l, stOk x = true) → allE l = 0) := Lib.hid (fun h1 h2 => allE_yes h1 h2)
  have HX := Lib.hid hx
  have HT := Lib.hid hT
  obtain ⟨n, hn⟩ : ∃ n, l.length = n := ⟨_, rfl⟩
  rw [hn] at a1 ⊢
  generalize allE l = R at HNO HYES ⊢
  have HN := Lib.hid hn
  clear hx hT hn a3
  by_cases h1 : 2000 < n
  · have HR : Hid (R = 120) := Lib.hid (HNO.out fun h => by have := HN.out; omega)
    have h1' : (2000 : Int) < (n : Int) := by omega
    clear h1
    go_enter Tryz.func36, Tryz.ntmps36
    go_wp2_with fail
    go_ret
    exact ⟨reti HR.out.symm, Below.refl _ _⟩
  have h1' : ¬ (2000 : Int) < (n : Int) := by omega
  go_enter Tryz.func36, Tryz.ntmps36
  go_wp2_with fail
  go_loopw [11] (fun i wr => ∃ j : Nat, j ≤ n ∧ i = .int .i64 j ∧ Hid (∀ z ∈ l.take j, stOk z = true) ∧ Below w.heap.size w wr) (fun i _ => n - (intOf i).toNat)
  case atStart => exact ⟨0, Nat.zero_le _, rfl, Lib.hid (fun z hz => by simp at hz), Below.refl _ _⟩
  case round =>
    obtain ⟨j, hj, rfl, HM1, hb⟩ := hrel
    have HB := Lib.hid hb
    by_cases hlt : j < n
    · have hlt' : (j : Int) < (n : Int) := by omega
      have hjl : j < l.length := by have := HN.out; omega
      obtain ⟨g, off, ov, mv, rfl, hg, hg2, ⟨q0, q1, q2, q3⟩, hS⟩ := HX.out.at_ (k := j) hjl
      have q0 := (hb.cell (p := ⟨g, off + j * 4, none⟩) hg).trans q0
      have q1 := (hb.cell (p := ⟨g, off + j * 4 + 1, none⟩) hg).trans q1
      have q2 := (hb.cell (p := ⟨g, off + j * 4 + 2, none⟩) hg).trans q2
      have q3 := (hb.cell (p := ⟨g, off + j * 4 + 3, none⟩) hg).trans q3
      obtain ⟨z, hz⟩ : ∃ z, l[j] = z := ⟨_, rfl⟩
      rw [hz] at q0 q1 hS
      obtain ⟨E, e2, F, f2, rfl, rfl⟩ := hS.forms
      have HZZ := Lib.hid hz
      have HS := Lib.hid hS
      clear hz hg hg2 hS hb
      cases hv : stOk z with
      | false =>
        have HR : Hid (R = 120) := Lib.hid (HNO.out fun h => by have := h.2 z (by rw [← HZZ.out]; exact List.getElem_mem _); rw [hv] at this; cases this)
        have HV := Lib.hid hv
        clear hv
        have HC := Lib.hid (mchk_no (N := w.heap.size) z _ _ (wr.alloc (.cells #[.int .u64 (z.t : Int), .bool z.intr, .slice E z.ord.length e2, .slice F z.mv.length f2] 36)) (HT.out.below (HB.out.alloc HB.out.size _)) (HB.out.alloc HB.out.size _).size (HS.out.below (HB.out.alloc HB.out.size _)) HV.out)
        go_wp2_with (go_at_call 9; refine HC.out.mono ?_; rintro e w1 ⟨rfl, hb1⟩)
        go_ret
        exact ⟨reti HR.out.symm, (HB.out.alloc HB.out.size _).trans (hb1.mono (by have := HB.out.size; simp; omega))⟩
      | true =>
        have HV := Lib.hid hv
        clear hv
        have HM2 : Hid (∀ z ∈ l.take (j + 1), stOk z = true) := Lib.hid (take_all hjl HM1.out (by rw [HZZ.out]; exact HV.out))
        have HC := Lib.hid (mchk_yes (N := w.heap.size) z _ _ (wr.alloc (.cells #[.int .u64 (z.t : Int), .bool z.intr, .slice E z.ord.length e2, .slice F z.mv.length f2] 36)) (HT.out.below (HB.out.alloc HB.out.size _)) (HB.out.alloc HB.out.size _).size (HS.out.below (HB.out.alloc HB.out.size _)) HV.out)
        go_wp2_with (go_at_call 9; refine HC.out.mono ?_; rintro e w1 ⟨rfl, hb1⟩)
        go_roundw
        case rel => exact ⟨j + 1, by omega, by go_num, HM2, (HB.out.alloc HB.out.size _).trans (hb1.mono (by have := HB.out.size; simp; omega))⟩
        case measure => simp [intOf]; omega
    · obtain rfl : j = n := by omega
      have hlt' : ¬ (j : Int) < (j : Int) := by omega
      have HR : Hid (R = 0) := Lib.hid (HYES.out (by have := HN.out; omega) (by have := HM1.out; rwa [List.take_of_length_le (by have := HN.out; omega)] at this))
      clear hb
      go_wp2_with fail
      go_ret
      exact ⟨reti HR.out.symm, HB.out⟩
end Go.Proofs.YtlephnfepofbbaaGreatDoor
