/-
  The drivers' features, words and numbers, the program's and the document's.
-/
import Derived.Test.YtbpgoopmfofcnaaDoorFlDrv
namespace Go.Proofs.YtbpgoopmfofcnaaDoor
open Go.RowKit

theorem bytes_eq {a b : ByteArray} (h : a = b) : (a.toList == b.toList) = true := by subst h; simp
theorem bytes_ne {a b : ByteArray} (h : a ≠ b) : (a.toList == b.toList) = false := by
  rw [beq_eq_false_iff_ne, ByteArray.toList_eq, ByteArray.toList_eq]
  intro e
  exact h (by cases a; cases b; simp at e; rw [e])
theorem field1 (a : Int) (b : ByteArray) (c : Int) (w : World) : (Instr.field 52 (.agg #[.int .i64 a, .string b, .int .i64 c]) 1).run Tryd.prog w = .ok (.string b) w := by kernel_rfl
theorem field2 (a : Int) (b : ByteArray) (c : Int) (w : World) : (Instr.field 52 (.agg #[.int .i64 a, .string b, .int .i64 c]) 2).run Tryd.prog w = .ok (.int .i64 c) w := by kernel_rfl
set_option maxRecDepth 100000 in
theorem features_any (m : Int) (W : World) (hT : TabD W) : Calls Tryd.prog 19 #[.int .i64 m] W fun e w' => e = .returned (.int .i64 (dFeats m)) ∧ Below W.heap.size W w' := by
  have H := Lib.hid (find_any m W hT)
  clear hT
  have x := field2
  go_enter Tryd.func19, Tryd.ntmps19
  go_wp2_with (go_at_call 38; refine H.out.mono ?_; rintro e w' ⟨rfl, hb⟩)
  go_ret
  exact ⟨rfl, hb⟩
set_option maxRecDepth 100000 in
theorem name_any (m : Int) (W : World) (hT : TabD W) : Calls Tryd.prog 21 #[.int .i64 m] W fun e w' => e = .returned (.string (dName m)) ∧ Below W.heap.size W w' := by
  have H := Lib.hid (find_any m W hT)
  clear hT
  have x := field1
  go_enter Tryd.func21, Tryd.ntmps21
  go_wp2_with (go_at_call 38; refine H.out.mono ?_; rintro e w' ⟨rfl, hb⟩)
  go_ret
  exact ⟨rfl, hb⟩

/-- The driver with a word. -/
def byName (s : ByteArray) : Int := if nameB 4 = s then 4 else if nameB 3 = s then 3 else if nameB 2 = s then 2 else if nameB 1 = s then 1 else 0
theorem byName_of {s : ByteArray} {k : Nat} (h0 : 1 ≤ k) (h4 : k ≤ 4) (h : nameB k = s) : byName s = k := by
  subst h
  obtain rfl | rfl | rfl | rfl : k = 1 ∨ k = 2 ∨ k = 3 ∨ k = 4 := by omega
  all_goals decide +kernel
theorem byName_none {s : ByteArray} (h : ∀ k : Nat, 1 ≤ k → k ≤ 4 → nameB k ≠ s) : byName s = 0 := by
  unfold byName
  rw [if_neg (h 4 (by omega) (by omega)), if_neg (h 3 (by omega) (by omega)), if_neg (h 2 (by omega) (by omega)), if_neg (h 1 (by omega) (by omega))]

set_option maxRecDepth 100000 in
set_option maxHeartbeats 2000000 in
theorem byName_any (s : ByteArray) (W : World) (hT : TabD W) : Calls Tryd.prog 23 #[.string s] W fun e w' =>
    e = .returned (.int .i64 (byName s)) ∧ Below W.heap.size W w' := by
  obtain ⟨hlt, c0, c1, c2, c3, c4, c5, c6, c7, c8, c9, c10, c11⟩ := hT
  have x0 := dr_index0
  have x1 := dr_index1
  have x2 := dr_index2
  have x3 := dr_index3
  go_enter Tryd.func23, Tryd.ntmps23
  go_wp2_with fail
  go_loopw [6] (fun i wr => DrRel W W (fun n => nameB n.toNat ≠ s) i wr) (fun i _ => 4 - (intOf i).toNat)
  case atStart => exact ⟨0, by omega, rfl, fun n h1 h2 => by omega, Below.refl _ _, Below.refl _ _⟩
  case round =>
    obtain ⟨k, hk, rfl, hP, hb, _⟩ := hrel
    have HP := Lib.hid hP
    have HBr := Lib.hid hb
    clear hb hP
    obtain rfl | rfl | rfl | rfl | rfl : k = 0 ∨ k = 1 ∨ k = 2 ∨ k = 3 ∨ k = 4 := by omega
    · by_cases hm : nameB 4 = s
      · have HM := Lib.hid hm
        have hm1 := bytes_eq hm
        clear hm
        go_wp2
        go_ret
        refine ⟨ret_int (byName_of (k := 4) (by omega) (by omega) HM.out).symm, ?_⟩
        (repeat' (first | exact HBr.out | apply Below.setCell | apply Below.alloc)) <;> (first | exact HBr.out.size | (simp; exact HBr.out.size))
      · have HM := Lib.hid hm
        have hm1 := bytes_ne hm
        clear hm
        go_wp2
        go_roundw
        case rel =>
          refine DrRel.next (by omega) HP.out HM.out ?_ (Below.refl _ _) _ rfl
          (repeat' (first | exact HBr.out | apply Below.setCell | apply Below.alloc)) <;> (first | exact HBr.out.size | (simp; exact HBr.out.size))
        case measure => simp [intOf]
    · by_cases hm : nameB 3 = s
      · have HM := Lib.hid hm
        have hm1 := bytes_eq hm
        clear hm
        go_wp2
        go_ret
        refine ⟨ret_int (byName_of (k := 3) (by omega) (by omega) HM.out).symm, ?_⟩
        (repeat' (first | exact HBr.out | apply Below.setCell | apply Below.alloc)) <;> (first | exact HBr.out.size | (simp; exact HBr.out.size))
      · have HM := Lib.hid hm
        have hm1 := bytes_ne hm
        clear hm
        go_wp2
        go_roundw
        case rel =>
          refine DrRel.next (by omega) HP.out HM.out ?_ (Below.refl _ _) _ rfl
          (repeat' (first | exact HBr.out | apply Below.setCell | apply Below.alloc)) <;> (first | exact HBr.out.size | (simp; exact HBr.out.size))
        case measure => simp [intOf]
    · by_cases hm : nameB 2 = s
      · have HM := Lib.hid hm
        have hm1 := bytes_eq hm
        clear hm
        go_wp2
        go_ret
        refine ⟨ret_int (byName_of (k := 2) (by omega) (by omega) HM.out).symm, ?_⟩
        (repeat' (first | exact HBr.out | apply Below.setCell | apply Below.alloc)) <;> (first | exact HBr.out.size | (simp; exact HBr.out.size))
      · have HM := Lib.hid hm
        have hm1 := bytes_ne hm
        clear hm
        go_wp2
        go_roundw
        case rel =>
          refine DrRel.next (by omega) HP.out HM.out ?_ (Below.refl _ _) _ rfl
          (repeat' (first | exact HBr.out | apply Below.setCell | apply Below.alloc)) <;> (first | exact HBr.out.size | (simp; exact HBr.out.size))
        case measure => simp [intOf]
    · by_cases hm : nameB 1 = s
      · have HM := Lib.hid hm
        have hm1 := bytes_eq hm
        clear hm
        go_wp2
        go_ret
        refine ⟨ret_int (byName_of (k := 1) (by omega) (by omega) HM.out).symm, ?_⟩
        (repeat' (first | exact HBr.out | apply Below.setCell | apply Below.alloc)) <;> (first | exact HBr.out.size | (simp; exact HBr.out.size))
      · have HM := Lib.hid hm
        have hm1 := bytes_ne hm
        clear hm
        go_wp2
        go_roundw
        case rel =>
          refine DrRel.next (by omega) HP.out HM.out ?_ (Below.refl _ _) _ rfl
          (repeat' (first | exact HBr.out | apply Below.setCell | apply Below.alloc)) <;> (first | exact HBr.out.size | (simp; exact HBr.out.size))
        case measure => simp [intOf]
    · have hm := byName_none (s := s) (fun k h1 h4 => HP.out (k : Int) (by omega) (by omega))
      have HM := Lib.hid hm
      clear hm
      go_wp2
      go_ret
      refine ⟨ret_int HM.out.symm, ?_⟩
      (repeat' (first | exact HBr.out | apply Below.setCell | apply Below.alloc)) <;> (first | exact HBr.out.size | (simp; exact HBr.out.size))

/-- The document's. -/
theorem rfeatures_any (m : Int) (w : World) : Calls Tryd.prog 20 #[.int .i64 m] w fun e w' => e = .returned (.int .i64 (dFeats m)) ∧ w = w' := by
  by_cases h2 : m = 2
  · subst h2
    go_enter Tryd.func20, Tryd.ntmps20
    go_wp2
    go_ret
    exact ⟨rfl, rfl⟩
  by_cases h3 : m = 3
  · subst h3
    go_enter Tryd.func20, Tryd.ntmps20
    go_wp2
    go_ret
    exact ⟨rfl, rfl⟩
  by_cases h4 : m = 4
  · subst h4
    go_enter Tryd.func20, Tryd.ntmps20
    go_wp2
    go_ret
    exact ⟨rfl, rfl⟩
  have h : dFeats m = 0 := by
    by_cases h1 : m = 1
    · subst h1; rfl
    · exact (none_of (by omega)).2.2
  have H := Lib.hid h
  clear h
  go_enter Tryd.func20, Tryd.ntmps20
  go_wp2
  go_ret
  exact ⟨ret_int H.out.symm, rfl⟩
theorem rname_any (m : Int) (w : World) : Calls Tryd.prog 22 #[.int .i64 m] w fun e w' => e = .returned (.string (dName m)) ∧ w = w' := by
  by_cases h1 : m = 1
  · subst h1
    go_enter Tryd.func22, Tryd.ntmps22
    go_wp2
    go_ret
    exact ⟨rfl, rfl⟩
  by_cases h2 : m = 2
  · subst h2
    go_enter Tryd.func22, Tryd.ntmps22
    go_wp2
    go_ret
    exact ⟨rfl, rfl⟩
  by_cases h3 : m = 3
  · subst h3
    go_enter Tryd.func22, Tryd.ntmps22
    go_wp2
    go_ret
    exact ⟨rfl, rfl⟩
  by_cases h4 : m = 4
  · subst h4
    go_enter Tryd.func22, Tryd.ntmps22
    go_wp2
    go_ret
    exact ⟨rfl, rfl⟩
  have H := Lib.hid ((none_of (m := m) (by omega)).2.1)
  go_enter Tryd.func22, Tryd.ntmps22
  go_wp2
  go_ret
  exact ⟨by rw [H.out]; rfl, rfl⟩
theorem rbyName_any (s : ByteArray) (w : World) : Calls Tryd.prog 24 #[.string s] w fun e w' => e = .returned (.int .i64 (byName s)) ∧ w = w' := by
  go_enter Tryd.func24, Tryd.ntmps24
  go_wp2_with fail
  go_loop [3] (fun i => ∃ k : Nat, 1 ≤ k ∧ k ≤ 5 ∧ i = .int .i64 k ∧ ∀ j : Nat, 1 ≤ j → j < k → nameB j ≠ s) (fun i => 5 - (intOf i).toNat)
  case atStart => exact ⟨1, by omega, by omega, rfl, fun j _ _ => by omega⟩
  case round =>
    obtain ⟨k, hk1, hk5, rfl, hP⟩ := hrel
    by_cases hlt : k ≤ 4
    · by_cases hm : nameB k = s
      · have hB := Lib.hid (byName_of hk1 hlt hm)
        have hm1 : ((dName (k : Int)).toList == s.toList) = true := bytes_eq hm
        clear hm
        have HP := Lib.hid hP
        clear hP
        go_wp2_with (go_at_call 22; refine (rname_any _ _).mono ?_; rintro e w' ⟨rfl, rfl⟩)
        go_ret
        exact ⟨ret_int hB.out.symm, rfl⟩
      · have hm1 : ((dName (k : Int)).toList == s.toList) = false := bytes_ne hm
        have HP : Hid (∀ j : Nat, 1 ≤ j → j < k + 1 → nameB j ≠ s) := fun j h1 h2 => by
          by_cases e : j = k
          · rw [e]; exact hm
          · exact hP j h1 (by omega)
        clear hm hP
        go_wp2_with (go_at_call 22; refine (rname_any _ _).mono ?_; rintro e w' ⟨rfl, rfl⟩)
        go_round
        case rel => exact ⟨k + 1, by omega, by omega, by go_num, HP.out⟩
        case measure => simp [intOf]; omega
    · have hB := Lib.hid (byName_none (s := s) (fun j h1 h4 => hP j h1 (by omega)))
      clear hP
      go_wp2
      go_ret
      exact ⟨ret_int hB.out.symm, rfl⟩
end Go.Proofs.YtbpgoopmfofcnaaDoor
