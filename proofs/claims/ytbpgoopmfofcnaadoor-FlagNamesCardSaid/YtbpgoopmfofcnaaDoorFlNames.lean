/-
  The walk of FlagNames.
-/
import Derived.Test.YtbpgoopmfofcnaaDoorFlMay
import Derived.Test.YtbpgoopmfofcnaaDoorFlRef2
namespace Go.Proofs.YtbpgoopmfofcnaaDoor
open Go.RowKit

theorem pr_none {s : ByteArray} (h : PR wordB 6 s = none) : prV wordB 6 s = 0 ∧ prE wordB 6 s = 50 := by unfold prV prE; rw [h]; exact ⟨rfl, rfl⟩
theorem text_val {z : Int} {t : ByteArray} {e : Int} (W : World) (hT : TabW W) (z0 : -9223372036854775808 ≤ z) (z1 : z ≤ 9223372036854775807) (h : textB wordB 6 z = t ∧ textE 6 z = e) :
    Calls Tryd.prog 9 #[.int .i64 z] W fun r w' => r = .returned (.tuple #[.string t, .int .i64 e]) ∧ Below W.heap.size W w' :=
  (textW_any z W hT z0 z1).mono fun r w' ⟨hr, hb⟩ => ⟨by rw [hr, h.1, h.2], hb⟩
theorem choose_val {n a d e : Int} {v : Value} {zs : List Int} (W : World) (hD : TabD W) (hv : IsI W v zs) (hn0 : -9223372036854775808 ≤ n) (hn1 : n ≤ 9223372036854775807) (ha0 : -9223372036854775808 ≤ a) (ha1 : a ≤ 9223372036854775807) (h : chD n a zs = d ∧ chE n a zs = e) :
    Calls Tryd.prog 17 #[.int .i64 n, .int .i64 a, v] W fun r w' => r = .returned (.tuple #[.int .i64 d, .int .i64 e]) ∧ Below W.heap.size W w' :=
  (choose_any n a v zs W hD hv hn0 hn1 ha0 ha1).mono fun r w' ⟨hr, hb⟩ => ⟨by rw [hr, h.1, h.2], hb⟩
theorem may_val {m : Int} {b : Bool} (W : World) (h : fmay m = b) : Calls Tryd.prog 25 #[.int .i64 m] W fun r w' => r = .returned (.bool b) ∧ W = w' :=
  (fmay_any m W).mono fun r w' ⟨hr, hb⟩ => ⟨by rw [hr, h], hb⟩
theorem ready_val {m k r : Int} (W : World) (h : frdy m k = r) : Calls Tryd.prog 28 #[.int .i64 m, .int .i64 k] W fun e w' => e = .returned (.int .i64 r) ∧ W = w' :=
  (frdy_any m k W).mono fun e w' ⟨hr, hb⟩ => ⟨by rw [hr, h], hb⟩
theorem isI_four (w : World) : IsI (w.alloc (.cells #[.int .i64 4] 3)) (.slice (some ⟨w.heap.size, 0, none⟩) 1 1) [4] :=
  ⟨some ⟨w.heap.size, 0, none⟩, 1, rfl, Nat.le_refl _, by unfold maxLen; omega, (fun h => by cases h), .inr ⟨w.heap.size, 0, rfl, by simp, fun j hj => by
    obtain rfl : j = 0 := by simpa using hj
    simp⟩⟩

set_option maxRecDepth 100000 in
set_option maxHeartbeats 8000000 in
theorem names_any (W : World) (hT : TabW W) (hD : TabD W) :
    Calls Tryd.prog 5 #[] W fun e w' => e = .returned (.bool true) ∧ Below W.heap.size W w' := by
  have t1 : ((ByteArray.mk #[110, 111, 110, 101]).toList == [110, 111, 110, 101]) = true := by rw [ByteArray.toList_eq]; rfl
  have HT := Lib.hid hT
  have HD := Lib.hid hD
  clear hT hD
  go_enter Tryd.func5, Tryd.ntmps5
  go_wp2_with fail
  refine (text_val (t := ⟨#[110, 111, 110, 101]⟩) (e := 0) _ HT.out (by omega) (by omega) (by decide +kernel)).mono ?_; rintro e w1 ⟨rfl, hb⟩
  have B1 := Lib.hid hb
  clear hb
  go_wp2_with fail
  refine (text_val (t := ⟨#[]⟩) (e := 50) _ (HT.out.below B1.out) (by omega) (by omega) (by decide +kernel)).mono ?_; rintro e w2 ⟨rfl, hb⟩
  have B2 := Lib.hid (B1.out.trans (hb.mono B1.out.size))
  clear hb B1
  go_wp2_with fail
  refine (choose_val (d := 3) (e := 0) _ (HD.out.below B2.out) (isI_nil _) (by omega) (by omega) (by omega) (by omega) (by decide +kernel)).mono ?_; rintro e w3 ⟨rfl, hb⟩
  have B3 := Lib.hid (B2.out.trans (hb.mono B2.out.size))
  clear hb B2
  go_wp2_with fail
  have B3' := Lib.hid (B3.out.alloc B3.out.size (.cells #[.int .i64 4] 3))
  refine (choose_val (d := 3) (e := 0) _ (HD.out.below B3'.out) (isI_four _) (by omega) (by omega) (by omega) (by omega) (by decide +kernel)).mono ?_; rintro e w4 ⟨rfl, hb⟩
  have B4 := Lib.hid (B3'.out.trans (hb.mono B3'.out.size))
  clear hb B3 B3'
  go_wp2_with fail
  refine (choose_val (d := 0) (e := 51) _ (HD.out.below B4.out) (isI_nil _) (by omega) (by omega) (by omega) (by omega) (by decide +kernel)).mono ?_; rintro e w5 ⟨rfl, hb⟩
  have B5 := Lib.hid (B4.out.trans (hb.mono B4.out.size))
  clear hb B4
  go_wp2_with fail
  refine (choose_val (d := 0) (e := 50) _ (HD.out.below B5.out) (isI_nil _) (by omega) (by omega) (by omega) (by omega) (by decide +kernel)).mono ?_; rintro e w6 ⟨rfl, hb⟩
  have B6 := Lib.hid (B5.out.trans (hb.mono B5.out.size))
  clear hb B5
  go_wp2_with fail
  refine (choose_val (d := 1) (e := 0) _ (HD.out.below B6.out) (isI_nil _) (by omega) (by omega) (by omega) (by omega) (by decide +kernel)).mono ?_; rintro e w7 ⟨rfl, hb⟩
  have B7 := Lib.hid (B6.out.trans (hb.mono B6.out.size))
  clear hb B6
  go_wp2_with fail
  refine (may_val (b := true) _ (by decide +kernel)).mono ?_; rintro e w8 ⟨rfl, rfl⟩
  go_wp2_with fail
  refine (may_val (b := false) _ (by decide +kernel)).mono ?_; rintro e w8 ⟨rfl, rfl⟩
  go_wp2_with fail
  refine (may_val (b := true) _ (by decide +kernel)).mono ?_; rintro e w8 ⟨rfl, rfl⟩
  go_wp2_with fail
  refine (may_val (b := false) _ (by decide +kernel)).mono ?_; rintro e w8 ⟨rfl, rfl⟩
  go_wp2_with fail
  refine (may_val (b := false) _ (by decide +kernel)).mono ?_; rintro e w8 ⟨rfl, rfl⟩
  go_wp2_with fail
  refine (may_val (b := true) _ (by decide +kernel)).mono ?_; rintro e w8 ⟨rfl, rfl⟩
  go_wp2_with fail
  refine (alive_any _ (HT.out.below B7.out) (HD.out.below B7.out)).mono ?_; rintro e w8 ⟨rfl, hb⟩
  have B8 := Lib.hid (B7.out.trans (hb.mono B7.out.size))
  clear hb B7
  go_wp2_with fail
  refine (refused_any _ _ (HT.out.below B8.out) (by decide +kernel) (pr_none (by decide +kernel))).mono ?_; rintro e w9 ⟨rfl, hb⟩
  have B9 := Lib.hid (B8.out.trans (hb.mono B8.out.size))
  clear hb B8
  go_wp2_with fail
  refine (refused_any _ _ (HT.out.below B9.out) (by decide +kernel) (pr_none (by decide +kernel))).mono ?_; rintro e w10 ⟨rfl, hb⟩
  have B10 := Lib.hid (B9.out.trans (hb.mono B9.out.size))
  clear hb B9
  go_wp2_with fail
  refine (refused_any _ _ (HT.out.below B10.out) (by decide +kernel) (pr_none (by decide +kernel))).mono ?_; rintro e w11 ⟨rfl, hb⟩
  have B11 := Lib.hid (B10.out.trans (hb.mono B10.out.size))
  clear hb B10
  go_wp2_with fail
  refine (refused_any _ _ (HT.out.below B11.out) (by decide +kernel) (pr_none (by decide +kernel))).mono ?_; rintro e w12 ⟨rfl, hb⟩
  have B12 := Lib.hid (B11.out.trans (hb.mono B11.out.size))
  clear hb B11
  go_wp2_with fail
  refine (refused_any _ _ (HT.out.below B12.out) (by decide +kernel) (pr_none (by decide +kernel))).mono ?_; rintro e w13 ⟨rfl, hb⟩
  have B13 := Lib.hid (B12.out.trans (hb.mono B12.out.size))
  clear hb B12
  go_wp2_with fail
  refine (ready_val (r := 35) _ (by decide +kernel)).mono ?_; rintro e w14 ⟨rfl, rfl⟩
  go_wp2_with fail
  go_ret
  exact ⟨rfl, B13.out⟩
end Go.Proofs.YtbpgoopmfofcnaaDoor
