/-
  May and Ready, the program's; the law's own functions alive and refused.
-/
import Derived.Test.YtbpgoopmfofcnaaDoorFlParse
import Derived.Test.YtbpgoopmfofcnaaDoorFlCh2
namespace Go.Proofs.YtbpgoopmfofcnaaDoor
open Go.RowKit

/-- May: the program's. -/
def fmay (m : Int) : Bool :=
  if bits .andNot .i64 m 63 = 0 then
    if bits .and .i64 m 1 = 0 then
      if bits .and .i64 m 8 = 0 then
        if bits .and .i64 m 32 = 0 then true else bits .and .i64 m 6 != 0
      else bits .and .i64 m 38 == 0
    else false
  else false
theorem fmay_any (m : Int) (w : World) :
    Calls Tryd.prog 25 #[.int .i64 m] w fun e w' => e = .returned (.bool (fmay m)) ∧ w = w' := by
  unfold fmay
  by_cases h1 : bits .andNot .i64 m 63 = 0
  · rw [if_pos h1]
    by_cases h2 : bits .and .i64 m 1 = 0
    · rw [if_pos h2]
      by_cases h3 : bits .and .i64 m 8 = 0
      · rw [if_pos h3]
        by_cases h4 : bits .and .i64 m 32 = 0
        · rw [if_pos h4]
          go_enter Tryd.func25, Tryd.ntmps25
          go_wp2
          go_ret
          exact ⟨rfl, rfl⟩
        · rw [if_neg h4]
          go_enter Tryd.func25, Tryd.ntmps25
          go_wp2
          go_ret
          exact ⟨rfl, rfl⟩
      · rw [if_neg h3]
        go_enter Tryd.func25, Tryd.ntmps25
        go_wp2
        go_ret
        exact ⟨rfl, rfl⟩
    · rw [if_neg h2]
      go_enter Tryd.func25, Tryd.ntmps25
      go_wp2
      go_ret
      exact ⟨rfl, rfl⟩
  · rw [if_neg h1]
    go_enter Tryd.func25, Tryd.ntmps25
    go_wp2
    go_ret
    exact ⟨rfl, rfl⟩
/-- Ready: the program's. -/
def frdy (a b : Int) : Int :=
  if bits .and .i64 (bits .and .i64 a b) 14 = 0 then bits .or .i64 (bits .and .i64 (bits .and .i64 a b) 14) (bits .and .i64 b 1)
  else bits .or .i64 (bits .or .i64 (bits .and .i64 (bits .and .i64 a b) 14) (bits .and .i64 a 32)) (bits .and .i64 b 1)
theorem frdy_any (a b : Int) (w : World) :
    Calls Tryd.prog 28 #[.int .i64 a, .int .i64 b] w fun e w' => e = .returned (.int .i64 (frdy a b)) ∧ w = w' := by
  by_cases h : bits .and .i64 (bits .and .i64 a b) 14 = 0
  · have e : frdy a b = bits .or .i64 0 (bits .and .i64 b 1) := by unfold frdy; rw [if_pos h, h]
    rw [e]; clear e
    go_enter Tryd.func28, Tryd.ntmps28
    go_wp2
    go_ret
    exact ⟨rfl, rfl⟩
  · have e : frdy a b = bits .or .i64 (bits .or .i64 (bits .and .i64 (bits .and .i64 a b) 14) (bits .and .i64 a 32)) (bits .and .i64 b 1) := by unfold frdy; rw [if_neg h]
    rw [e]; clear e
    go_enter Tryd.func28, Tryd.ntmps28
    go_wp2
    go_ret
    exact ⟨rfl, rfl⟩

theorem textB_22 : textB wordB 6 22 = ⟨#[114, 101, 97, 100, 43, 119, 114, 105, 116, 101, 43, 112, 101, 114, 115, 105, 115, 116]⟩ ∧ textE 6 22 = 0 := by decide +kernel
set_option maxRecDepth 100000 in
theorem alive_any (W : World) (hT : TabW W) (hD : TabD W) : Calls Tryd.prog 26 #[] W fun e w' => e = .returned (.bool true) ∧ Below W.heap.size W w' := by
  have t1 : ((ByteArray.mk #[114, 101, 97, 100, 43, 119, 114, 105, 116, 101, 43, 112, 101, 114, 115, 105, 115, 116]).toList == [114, 101, 97, 100, 43, 119, 114, 105, 116, 101, 43, 112, 101, 114, 115, 105, 115, 116]) = true := by rw [ByteArray.toList_eq]; rfl
  have t2 : ((ByteArray.mk #[101, 112, 111, 108, 108]).toList == [101, 112, 111, 108, 108]) = true := by rw [ByteArray.toList_eq]; rfl
  have C1 : Hid (Calls Tryd.prog 9 #[.int .i64 22] W fun e w' => e = .returned (.tuple #[.string ⟨#[114, 101, 97, 100, 43, 119, 114, 105, 116, 101, 43, 112, 101, 114, 115, 105, 115, 116]⟩, .int .i64 0]) ∧ Below W.heap.size W w') :=
    (textW_any 22 W hT (by omega) (by omega)).mono fun e w' ⟨he, hb⟩ => ⟨by rw [he, textB_22.1, textB_22.2], hb⟩
  have HD := Lib.hid hD
  clear hT hD
  go_enter Tryd.func26, Tryd.ntmps26
  go_wp2_with fail
  refine C1.out.mono ?_; rintro e w1 ⟨rfl, hb⟩
  have B1 := Lib.hid hb
  clear hb
  go_wp2_with fail
  refine (name_any 3 _ (HD.out.below B1.out)).mono ?_; rintro e w2 ⟨rfl, hb⟩
  rw [show dName 3 = ⟨#[101, 112, 111, 108, 108]⟩ from rfl]
  have B2 := Lib.hid (B1.out.trans (hb.mono B1.out.size))
  clear hb
  go_wp2_with fail
  go_ret
  exact ⟨rfl, B2.out⟩
theorem refused_any (s : ByteArray) (W : World) (hT : TabW W) (hs : s.size ≤ 1000) (hp : prV wordB 6 s = 0 ∧ prE wordB 6 s = 50) : Calls Tryd.prog 27 #[.string s] W fun e w' => e = .returned (.int .i64 1) ∧ Below W.heap.size W w' := by
  have C1 : Hid (Calls Tryd.prog 13 #[.string s] W fun e w' => e = .returned (.tuple #[.int .i64 0, .int .i64 50]) ∧ Below W.heap.size W w') :=
    (parseW_any s W hT hs).mono fun e w' ⟨he, hb⟩ => ⟨by rw [he, hp.1, hp.2], hb⟩
  clear hT hp
  go_enter Tryd.func27, Tryd.ntmps27
  go_wp2_with fail
  refine C1.out.mono ?_; rintro e w1 ⟨rfl, hb⟩
  have B1 := Lib.hid hb
  clear hb
  go_wp2_with fail
  go_ret
  exact ⟨rfl, B1.out⟩
theorem textB_size (Wd : Nat → ByteArray) (n : Nat) (z : Int) (hn : n ≤ 6) (h : ∀ k, (Wd k).data.toList.length ≤ 7) : (textB Wd n z).size ≤ 1000 := by
  unfold textB
  split
  · show 4 ≤ 1000; omega
  · split
    · have h1 := txt_len h (sel n z.toNat)
      have h2 : (sel n z.toNat).length ≤ n := by unfold sel; exact Nat.le_trans (List.length_filter_le _ _) (by rw [List.length_range]; exact Nat.le_refl _)
      omega
    · show 0 ≤ 1000; omega
end Go.Proofs.YtbpgoopmfofcnaaDoor
