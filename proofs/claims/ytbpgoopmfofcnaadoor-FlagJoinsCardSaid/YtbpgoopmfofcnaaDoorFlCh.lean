/-
  Who is chosen: the program's Choose and the document's, for whatever is needed, avoided, and not there.
-/
import Derived.Test.YtbpgoopmfofcnaaDoorFlDrv2
import Derived.Test.YtbpgoopmfofcnaaDoorFlShelf
import Derived.Test.YtbpgoopmfofcnaaDoorFlBits2
import Derived.Deep.QuietTactic
import Derived.BigQuiet
namespace Go.Proofs.YtbpgoopmfofcnaaDoor
open Go.RowKit

theorem ret_pair {k l : IntKind} {a b c d : Int} (h : a = c) (g : b = d) : Ending.returned (.tuple #[.int k a, .int l b]) = .returned (.tuple #[.int k c, .int l d]) := by rw [h, g]

/-- A slice of ints that may be read. -/
def IsI (w : World) (v : Value) (zs : List Int) : Prop :=
  ∃ a cap, v = .slice a zs.length cap ∧ zs.length ≤ cap ∧ cap ≤ maxLen ∧ (a = none → cap = 0) ∧ (zs = [] ∨ ∃ b off, a = some ⟨b, off, none⟩ ∧ b < w.heap.size ∧ ∀ j, j < zs.length → w.cell? ⟨b, off + j, none⟩ = some (.int .i64 (zs.getD j 0)))
theorem IsI.below {w w' : World} {v : Value} {zs : List Int} (h : IsI w v zs) (hb : Below w.heap.size w w') : IsI w' v zs := by
  obtain ⟨a, cap, rfl, hl, hm, hz, h⟩ := h
  refine ⟨a, cap, rfl, hl, hm, hz, ?_⟩
  rcases h with h | ⟨b, off, rfl, hlt, hc⟩
  · exact .inl h
  · exact .inr ⟨b, off, rfl, Nat.lt_of_lt_of_le hlt hb.size, fun j hj => (hb.cell (p := ⟨b, off + j, none⟩) hlt).trans (hc j hj)⟩
theorem isI_nil (w : World) : IsI w (.slice none 0 0) [] := ⟨none, 0, rfl, Nat.le_refl _, Nat.zero_le _, fun _ => rfl, .inl rfl⟩
theorem IsI.len {w : World} {v : Value} {zs : List Int} (h : IsI w v zs) : zs.length ≤ 9223372036854775807 := by
  obtain ⟨a, cap, rfl, hl, hm, _⟩ := h; unfold maxLen at hm; omega

/-- Is a number one of some? -/
def hasZ (zs : List Int) (x : Int) : Bool := zs.contains x
theorem contains_any (v : Value) (zs : List Int) (x : Int) (w : World) (h : IsI w v zs) :
    Calls Tryd.prog 36 #[v, .int .i64 x] w fun e w' => e = .returned (.bool (hasZ zs x)) ∧ w = w' := by
  have hlen := h.len
  obtain ⟨a, cap, rfl, hl, hm, hz, h⟩ := h
  rcases h with rfl | ⟨b, off, rfl, hlt, hc⟩
  · exact (Tryd.slices_Contains_int_empty a cap x w).mono fun e w' ⟨he, hw⟩ => ⟨by rw [he]; rfl, hw.symm⟩
  · exact (Tryd.slices_Contains_int b off zs.length cap zs x w (Nat.le_refl _) (by omega) hc).mono fun e w' ⟨he, hw⟩ => ⟨by rw [he, List.take_length]; rfl, hw.symm⟩

/-- Has a mask a bit? -/
def bitB (m b : Int) : Bool := decide (m / b % 2 = 1)
theorem bit_any (m b : Int) (w : World) (h0 : 0 ≤ m) (h1 : m ≤ 63) (hb : 1 ≤ b) (hb1 : b ≤ 32) :
    Calls Tryd.prog 37 #[.int .i64 m, .int .i64 b] w fun e w' => e = .returned (.bool (bitB m b)) ∧ w = w' := by
  have hq : 0 ≤ m / b := Int.ediv_nonneg h0 (by omega)
  have hq1 : m / b ≤ m := Int.ediv_le_self _ h0
  have e1 : m.tdiv b = m / b := Int.tdiv_eq_ediv_of_nonneg h0
  have e2 : (m / b).tmod 2 = m / b % 2 := Int.tmod_eq_emod_of_nonneg hq
  go_enter Tryd.func37, Tryd.ntmps37
  go_wp2
  go_ret
  exact ⟨rfl, rfl⟩

/-- Has a driver with features f all that is needed, and nothing that is avoided? -/
def suitB (n a f : Int) : Bool := decide (bits .andNot .i64 n f = 0) && decide (bits .and .i64 a f = 0)
theorem suits_any (n a d f : Int) (s : ByteArray) (W : World) :
    Calls Tryd.prog 35 #[.agg #[.int .i64 d, .string s, .int .i64 f], .int .i64 n, .int .i64 a] W fun e w' => e = .returned (.bool (suitB n a f)) ∧ Below W.heap.size W w' := by
  unfold suitB
  by_cases h1 : bits .andNot .i64 n f = 0
  · rw [decide_eq_true h1, Bool.true_and]
    go_enter Tryd.func35, Tryd.ntmps35
    go_wp2
    go_ret
    exact ⟨rfl, (Below.refl _ _).alloc (Nat.le_refl _) _⟩
  · rw [decide_eq_false h1, Bool.false_and]
    go_enter Tryd.func35, Tryd.ntmps35
    go_wp2
    go_ret
    exact ⟨rfl, (Below.refl _ _).alloc (Nat.le_refl _) _⟩

/-- Is this driver fine? -/
def fine (n a : Int) (zs : List Int) (d : Int) : Bool := suitB n a (dFeats d) && !hasZ zs d
def pick (n a : Int) (zs : List Int) : Int := if fine n a zs 4 = true then 4 else if fine n a zs 3 = true then 3 else if fine n a zs 2 = true then 2 else if fine n a zs 1 = true then 1 else 0
theorem pick_of {n a : Int} {zs : List Int} {d : Int} (h1 : 1 ≤ d) (h4 : d ≤ 4) (h : fine n a zs d = true) (hP : ∀ e : Int, d < e → e ≤ 4 → fine n a zs e = false) : pick n a zs = d := by
  unfold pick
  obtain rfl | rfl | rfl | rfl : d = 4 ∨ d = 3 ∨ d = 2 ∨ d = 1 := by omega
  · rw [if_pos h]
  · rw [if_neg (by rw [hP 4 (by omega) (by omega)]; simp), if_pos h]
  · rw [if_neg (by rw [hP 4 (by omega) (by omega)]; simp), if_neg (by rw [hP 3 (by omega) (by omega)]; simp), if_pos h]
  · rw [if_neg (by rw [hP 4 (by omega) (by omega)]; simp), if_neg (by rw [hP 3 (by omega) (by omega)]; simp), if_neg (by rw [hP 2 (by omega) (by omega)]; simp), if_pos h]
theorem pick_none {n a : Int} {zs : List Int} (hP : ∀ e : Int, 0 < e → e ≤ 4 → fine n a zs e = false) : pick n a zs = 0 := by
  unfold pick
  rw [if_neg (by rw [hP 4 (by omega) (by omega)]; simp), if_neg (by rw [hP 3 (by omega) (by omega)]; simp), if_neg (by rw [hP 2 (by omega) (by omega)]; simp), if_neg (by rw [hP 1 (by omega) (by omega)]; simp)]
/-- The answer: the driver, and the error. -/
def chD (n a : Int) (zs : List Int) : Int := if 0 ≤ n ∧ n ≤ 15 ∧ 0 ≤ a ∧ a ≤ 15 then pick n a zs else 0
def chE (n a : Int) (zs : List Int) : Int := if 0 ≤ n ∧ n ≤ 15 ∧ 0 ≤ a ∧ a ≤ 15 then (if pick n a zs = 0 then 51 else 0) else 50
theorem fine_yes {n a d : Int} {zs : List Int} (h : suitB n a (dFeats d) = true) (g : hasZ zs d = false) : fine n a zs d = true := by unfold fine; rw [h, g]; rfl
theorem fine_no1 {n a d : Int} {zs : List Int} (h : suitB n a (dFeats d) = false) : fine n a zs d = false := by unfold fine; rw [h]; rfl
theorem fine_no2 {n a d : Int} {zs : List Int} (g : hasZ zs d = true) : fine n a zs d = false := by unfold fine; rw [g]; simp

set_option maxRecDepth 100000 in
set_option maxHeartbeats 2000000 in
theorem choose_any (n a : Int) (v : Value) (zs : List Int) (W : World) (hT : TabD W) (hv : IsI W v zs) (hn0 : -9223372036854775808 ≤ n) (hn1 : n ≤ 9223372036854775807) (ha0 : -9223372036854775808 ≤ a) (ha1 : a ≤ 9223372036854775807) :
    Calls Tryd.prog 17 #[.int .i64 n, .int .i64 a, v] W fun e w' => e = .returned (.tuple #[.int .i64 (chD n a zs), .int .i64 (chE n a zs)]) ∧ Below W.heap.size W w' := by
  by_cases hr : bits .andNot .i64 (bits .or .i64 n a) 15 = 0
  · have HT := Lib.hid hT
    have HV := Lib.hid hv
    obtain ⟨hlt, c0, c1, c2, c3, c4, c5, c6, c7, c8, c9, c10, c11⟩ := hT
    have hrange := (asked n a hn0 hn1 ha0 ha1).1 hr
    have HC : Hid (chD n a zs = pick n a zs ∧ chE n a zs = if pick n a zs = 0 then 51 else 0) := by
      unfold chD chE; rw [if_pos hrange, if_pos hrange]; exact ⟨rfl, rfl⟩
    clear hv hrange
    have x0 := dr_index0
    have x1 := dr_index1
    have x2 := dr_index2
    have x3 := dr_index3
    go_enter Tryd.func17, Tryd.ntmps17
    go_wp2_with fail
    clear hr
    go_loopw [16] (fun i wr => DrRel W W (fun d => fine n a zs d = false) i wr) (fun i _ => 4 - (intOf i).toNat)
    case atStart => exact ⟨0, by omega, rfl, fun n h1 h2 => by omega, Below.refl _ _, Below.refl _ _⟩
    case round =>
      obtain ⟨k, hk, rfl, hP, hb, _⟩ := hrel
      have HP := Lib.hid hP
      have HBr := Lib.hid hb
      clear hb hP
      obtain rfl | rfl | rfl | rfl | rfl : k = 0 ∨ k = 1 ∨ k = 2 ∨ k = 3 ∨ k = 4 := by omega
      · have hb1 : Below W.heap.size W (wr.alloc (.cells #[.int .i64 4, .string (nameB 4), .int .i64 15] 52)) := HBr.out.alloc HBr.out.size _
        have HB1 := Lib.hid hb1
        clear hb1
        rcases Bool.eq_false_or_eq_true (suitB n a 15) with hs | hs
        · rcases Bool.eq_false_or_eq_true (hasZ zs 4) with hz | hz
          · go_wp2_with (first
              | (go_at_call 35; refine (suits_any _ _ _ _ _ _).mono ?_; rintro e w' ⟨rfl, hb2⟩; have d0 : w'.cell? ⟨wr.heap.size, 0, none⟩ = some (.int .i64 4) := (hb2.cell (p := ⟨wr.heap.size, 0, none⟩) (by simp)).trans (by simp); have HB2 := Lib.hid (HB1.out.trans (hb2.mono (by have := HBr.out.size; simp; omega))); clear hb2)
              | (go_at_call 36; refine (contains_any _ zs _ _ (HV.out.below HB2.out)).mono ?_; rintro e w' ⟨rfl, rfl⟩))
            go_roundw
            case rel => exact DrRel.next (by omega) HP.out (fine_no2 hz) HB2.out (Below.refl _ _) _ rfl
            case measure => simp [intOf]
          · go_wp2_with (first
              | (go_at_call 35; refine (suits_any _ _ _ _ _ _).mono ?_; rintro e w' ⟨rfl, hb2⟩; have d0 : w'.cell? ⟨wr.heap.size, 0, none⟩ = some (.int .i64 4) := (hb2.cell (p := ⟨wr.heap.size, 0, none⟩) (by simp)).trans (by simp); have HB2 := Lib.hid (HB1.out.trans (hb2.mono (by have := HBr.out.size; simp; omega))); clear hb2)
              | (go_at_call 36; refine (contains_any _ zs _ _ (HV.out.below HB2.out)).mono ?_; rintro e w' ⟨rfl, rfl⟩))
            have hp := pick_of (n := n) (a := a) (zs := zs) (d := 4) (by omega) (by omega) (fine_yes hs hz) (fun e h1 h2 => HP.out e (by omega) h2)
            go_ret2
            exact ⟨ret_pair (by rw [HC.out.1, hp]) (by rw [HC.out.2, hp]; rfl), HB2.out⟩
        · go_wp2_with (go_at_call 35; refine (suits_any _ _ _ _ _ _).mono ?_; rintro e w' ⟨rfl, hb2⟩; have d0 : w'.cell? ⟨wr.heap.size, 0, none⟩ = some (.int .i64 4) := (hb2.cell (p := ⟨wr.heap.size, 0, none⟩) (by simp)).trans (by simp); have HB2 := Lib.hid (HB1.out.trans (hb2.mono (by have := HBr.out.size; simp; omega))); clear hb2)
          go_roundw
          case rel => exact DrRel.next (by omega) HP.out (fine_no1 hs) HB2.out (Below.refl _ _) _ rfl
          case measure => simp [intOf]
      · have hb1 : Below W.heap.size W (wr.alloc (.cells #[.int .i64 3, .string (nameB 3), .int .i64 11] 52)) := HBr.out.alloc HBr.out.size _
        have HB1 := Lib.hid hb1
        clear hb1
        rcases Bool.eq_false_or_eq_true (suitB n a 11) with hs | hs
        · rcases Bool.eq_false_or_eq_true (hasZ zs 3) with hz | hz
          · go_wp2_with (first
              | (go_at_call 35; refine (suits_any _ _ _ _ _ _).mono ?_; rintro e w' ⟨rfl, hb2⟩; have d0 : w'.cell? ⟨wr.heap.size, 0, none⟩ = some (.int .i64 3) := (hb2.cell (p := ⟨wr.heap.size, 0, none⟩) (by simp)).trans (by simp); have HB2 := Lib.hid (HB1.out.trans (hb2.mono (by have := HBr.out.size; simp; omega))); clear hb2)
              | (go_at_call 36; refine (contains_any _ zs _ _ (HV.out.below HB2.out)).mono ?_; rintro e w' ⟨rfl, rfl⟩))
            go_roundw
            case rel => exact DrRel.next (by omega) HP.out (fine_no2 hz) HB2.out (Below.refl _ _) _ rfl
            case measure => simp [intOf]
          · go_wp2_with (first
              | (go_at_call 35; refine (suits_any _ _ _ _ _ _).mono ?_; rintro e w' ⟨rfl, hb2⟩; have d0 : w'.cell? ⟨wr.heap.size, 0, none⟩ = some (.int .i64 3) := (hb2.cell (p := ⟨wr.heap.size, 0, none⟩) (by simp)).trans (by simp); have HB2 := Lib.hid (HB1.out.trans (hb2.mono (by have := HBr.out.size; simp; omega))); clear hb2)
              | (go_at_call 36; refine (contains_any _ zs _ _ (HV.out.below HB2.out)).mono ?_; rintro e w' ⟨rfl, rfl⟩))
            have hp := pick_of (n := n) (a := a) (zs := zs) (d := 3) (by omega) (by omega) (fine_yes hs hz) (fun e h1 h2 => HP.out e (by omega) h2)
            go_ret2
            exact ⟨ret_pair (by rw [HC.out.1, hp]) (by rw [HC.out.2, hp]; rfl), HB2.out⟩
        · go_wp2_with (go_at_call 35; refine (suits_any _ _ _ _ _ _).mono ?_; rintro e w' ⟨rfl, hb2⟩; have d0 : w'.cell? ⟨wr.heap.size, 0, none⟩ = some (.int .i64 3) := (hb2.cell (p := ⟨wr.heap.size, 0, none⟩) (by simp)).trans (by simp); have HB2 := Lib.hid (HB1.out.trans (hb2.mono (by have := HBr.out.size; simp; omega))); clear hb2)
          go_roundw
          case rel => exact DrRel.next (by omega) HP.out (fine_no1 hs) HB2.out (Below.refl _ _) _ rfl
          case measure => simp [intOf]
      · have hb1 : Below W.heap.size W (wr.alloc (.cells #[.int .i64 2, .string (nameB 2), .int .i64 2] 52)) := HBr.out.alloc HBr.out.size _
        have HB1 := Lib.hid hb1
        clear hb1
        rcases Bool.eq_false_or_eq_true (suitB n a 2) with hs | hs
        · rcases Bool.eq_false_or_eq_true (hasZ zs 2) with hz | hz
          · go_wp2_with (first
              | (go_at_call 35; refine (suits_any _ _ _ _ _ _).mono ?_; rintro e w' ⟨rfl, hb2⟩; have d0 : w'.cell? ⟨wr.heap.size, 0, none⟩ = some (.int .i64 2) := (hb2.cell (p := ⟨wr.heap.size, 0, none⟩) (by simp)).trans (by simp); have HB2 := Lib.hid (HB1.out.trans (hb2.mono (by have := HBr.out.size; simp; omega))); clear hb2)
              | (go_at_call 36; refine (contains_any _ zs _ _ (HV.out.below HB2.out)).mono ?_; rintro e w' ⟨rfl, rfl⟩))
            go_roundw
            case rel => exact DrRel.next (by omega) HP.out (fine_no2 hz) HB2.out (Below.refl _ _) _ rfl
            case measure => simp [intOf]
          · go_wp2_with (first
              | (go_at_call 35; refine (suits_any _ _ _ _ _ _).mono ?_; rintro e w' ⟨rfl, hb2⟩; have d0 : w'.cell? ⟨wr.heap.size, 0, none⟩ = some (.int .i64 2) := (hb2.cell (p := ⟨wr.heap.size, 0, none⟩) (by simp)).trans (by simp); have HB2 := Lib.hid (HB1.out.trans (hb2.mono (by have := HBr.out.size; simp; omega))); clear hb2)
              | (go_at_call 36; refine (contains_any _ zs _ _ (HV.out.below HB2.out)).mono ?_; rintro e w' ⟨rfl, rfl⟩))
            have hp := pick_of (n := n) (a := a) (zs := zs) (d := 2) (by omega) (by omega) (fine_yes hs hz) (fun e h1 h2 => HP.out e (by omega) h2)
            go_ret2
            exact ⟨ret_pair (by rw [HC.out.1, hp]) (by rw [HC.out.2, hp]; rfl), HB2.out⟩
        · go_wp2_with (go_at_call 35; refine (suits_any _ _ _ _ _ _).mono ?_; rintro e w' ⟨rfl, hb2⟩; have d0 : w'.cell? ⟨wr.heap.size, 0, none⟩ = some (.int .i64 2) := (hb2.cell (p := ⟨wr.heap.size, 0, none⟩) (by simp)).trans (by simp); have HB2 := Lib.hid (HB1.out.trans (hb2.mono (by have := HBr.out.size; simp; omega))); clear hb2)
          go_roundw
          case rel => exact DrRel.next (by omega) HP.out (fine_no1 hs) HB2.out (Below.refl _ _) _ rfl
          case measure => simp [intOf]
      · have hb1 : Below W.heap.size W (wr.alloc (.cells #[.int .i64 1, .string (nameB 1), .int .i64 0] 52)) := HBr.out.alloc HBr.out.size _
        have HB1 := Lib.hid hb1
        clear hb1
        rcases Bool.eq_false_or_eq_true (suitB n a 0) with hs | hs
        · rcases Bool.eq_false_or_eq_true (hasZ zs 1) with hz | hz
          · go_wp2_with (first
              | (go_at_call 35; refine (suits_any _ _ _ _ _ _).mono ?_; rintro e w' ⟨rfl, hb2⟩; have d0 : w'.cell? ⟨wr.heap.size, 0, none⟩ = some (.int .i64 1) := (hb2.cell (p := ⟨wr.heap.size, 0, none⟩) (by simp)).trans (by simp); have HB2 := Lib.hid (HB1.out.trans (hb2.mono (by have := HBr.out.size; simp; omega))); clear hb2)
              | (go_at_call 36; refine (contains_any _ zs _ _ (HV.out.below HB2.out)).mono ?_; rintro e w' ⟨rfl, rfl⟩))
            go_roundw
            case rel => exact DrRel.next (by omega) HP.out (fine_no2 hz) HB2.out (Below.refl _ _) _ rfl
            case measure => simp [intOf]
          · go_wp2_with (first
              | (go_at_call 35; refine (suits_any _ _ _ _ _ _).mono ?_; rintro e w' ⟨rfl, hb2⟩; have d0 : w'.cell? ⟨wr.heap.size, 0, none⟩ = some (.int .i64 1) := (hb2.cell (p := ⟨wr.heap.size, 0, none⟩) (by simp)).trans (by simp); have HB2 := Lib.hid (HB1.out.trans (hb2.mono (by have := HBr.out.size; simp; omega))); clear hb2)
              | (go_at_call 36; refine (contains_any _ zs _ _ (HV.out.below HB2.out)).mono ?_; rintro e w' ⟨rfl, rfl⟩))
            have hp := pick_of (n := n) (a := a) (zs := zs) (d := 1) (by omega) (by omega) (fine_yes hs hz) (fun e h1 h2 => HP.out e (by omega) h2)
            go_ret2
            exact ⟨ret_pair (by rw [HC.out.1, hp]) (by rw [HC.out.2, hp]; rfl), HB2.out⟩
        · go_wp2_with (go_at_call 35; refine (suits_any _ _ _ _ _ _).mono ?_; rintro e w' ⟨rfl, hb2⟩; have d0 : w'.cell? ⟨wr.heap.size, 0, none⟩ = some (.int .i64 1) := (hb2.cell (p := ⟨wr.heap.size, 0, none⟩) (by simp)).trans (by simp); have HB2 := Lib.hid (HB1.out.trans (hb2.mono (by have := HBr.out.size; simp; omega))); clear hb2)
          go_roundw
          case rel => exact DrRel.next (by omega) HP.out (fine_no1 hs) HB2.out (Below.refl _ _) _ rfl
          case measure => simp [intOf]
      · have hp := pick_none (n := n) (a := a) (zs := zs) (fun e h1 h2 => HP.out e (by omega) h2)
        have HPn := Lib.hid hp
        clear hp
        go_wp2
        go_ret2
        exact ⟨ret_pair (by rw [HC.out.1, HPn.out]) (by rw [HC.out.2, HPn.out]; rfl), HBr.out⟩
  · have hrange : ¬ (0 ≤ n ∧ n ≤ 15 ∧ 0 ≤ a ∧ a ≤ 15) := fun h => hr ((asked n a hn0 hn1 ha0 ha1).2 h)
    have HC : Hid (chD n a zs = 0 ∧ chE n a zs = 50) := by
      unfold chD chE; rw [if_neg hrange, if_neg hrange]; exact ⟨rfl, rfl⟩
    clear hrange hT hv
    go_enter Tryd.func17, Tryd.ntmps17
    go_wp2
    go_ret2
    exact ⟨ret_pair HC.out.1.symm HC.out.2.symm, Below.refl _ _⟩
end Go.Proofs.YtbpgoopmfofcnaaDoor
