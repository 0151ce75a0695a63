/-
  The walk of FlagBack.
-/
import Derived.Test.YtbpgoopmfofcnaaDoorFlMay
import Derived.Test.YtbpgoopmfofcnaaDoorFlRef2
namespace Go.Proofs.YtbpgoopmfofcnaaDoor
open Go.RowKit

/-- What comes back of a mask's text. -/
def BackM (Wd : Nat → ByteArray) (n : Nat) (z : Int) : Prop := (textE n z = 0 ∧ prV Wd n (textB Wd n z) = z ∧ prE Wd n (textB Wd n z) = 0) ∨ (textE n z = 50)
theorem back_m {Wd : Nat → ByteArray} {n : Nat} (K : Kind Wd n) (z : Int) : BackM Wd n z := by
  by_cases h : 0 ≤ z ∧ z < 2 ^ n
  · have hp := pr_hit K (s := textB Wd n z) h.1 h.2 rfl
    exact .inl ⟨by unfold textE; rw [if_pos h], hp.1, hp.2⟩
  · exact .inr (by unfold textE; rw [if_neg h])
def BackS (s : ByteArray) : Prop := (prE wordB 6 s = 0 ∧ textE 6 (prV wordB 6 s) = 0 ∧ textB wordB 6 (prV wordB 6 s) = s) ∨ prE wordB 6 s = 50
theorem back_s (s : ByteArray) : BackS s := by
  cases e : PR wordB 6 s with
  | none => exact .inr (by unfold prE; rw [e]; rfl)
  | some v =>
    obtain ⟨h0, h1, h2⟩ := (PR_iff kindW s v).1 e
    have hv : prV wordB 6 s = v := by unfold prV; rw [e]; rfl
    exact .inl ⟨by unfold prE; rw [e]; rfl, by rw [hv]; unfold textE; rw [if_pos ⟨h0, h1⟩], by rw [hv]; exact h2⟩
theorem prV_bd (s : ByteArray) : -9223372036854775808 ≤ prV wordB 6 s ∧ prV wordB 6 s ≤ 9223372036854775807 := by
  cases e : PR wordB 6 s with
  | none => unfold prV; rw [e]; decide
  | some v =>
    obtain ⟨h0, h1, h2⟩ := (PR_iff kindW s v).1 e
    have hv : prV wordB 6 s = v := by unfold prV; rw [e]; rfl
    have : (2 : Int) ^ 6 = 64 := rfl
    rw [hv]; omega

set_option maxRecDepth 100000 in
set_option maxHeartbeats 4000000 in
theorem back_any (z : Int) (s : ByteArray) (W : World) (hT : TabW W) (hF : TabF W) (hD : TabD W) (hs : s.size ≤ maxLen) (z0 : -9223372036854775808 ≤ z) (z1 : z ≤ 9223372036854775807) :
    Calls Tryd.prog 6 #[.int .i64 z, .string s] W fun e w' => e = .returned (.bool true) ∧ Below W.heap.size W w' := by
  unfold maxLen at hs
  have HT := Lib.hid hT
  have HF := Lib.hid hF
  have HD := Lib.hid hD
  have CA := Lib.hid (alive_any W hT hD)
  clear hT hF hD
  by_cases h1 : 1000 < s.size
  · go_enter Tryd.func6, Tryd.ntmps6
    go_wp2_with (go_at_call 26; refine CA.out.mono ?_; rintro e w1 ⟨rfl, hb⟩)
    go_ret
    exact ⟨rfl, hb⟩
  have hs' : s.size ≤ 1000 := by omega
  have HM := Lib.hid (back_m kindW z)
  have HN := Lib.hid (back_m kindF z)
  have HS := Lib.hid (back_s s)
  go_enter Tryd.func6, Tryd.ntmps6
  go_wp2_with fail
  refine CA.out.mono ?_; rintro e w1 ⟨rfl, hb⟩
  have B0 := Lib.hid hb
  clear hb
  go_wp2_with fail
  refine (textW_any z _ (HT.out.below B0.out) z0 z1).mono ?_; rintro e w2 ⟨rfl, hb⟩
  have B1 := Lib.hid (B0.out.trans (hb.mono B0.out.size))
  clear hb
  go_wp2_with fail
  refine (parseW_any _ _ (HT.out.below B1.out) (textB_size _ _ _ (by omega) word_len)).mono ?_; rintro e w3 ⟨rfl, hb⟩
  have B2 := Lib.hid (B1.out.trans (hb.mono B1.out.size))
  clear hb
  go_wp2_with fail
  refine (textF_any z _ (HF.out.below B2.out) z0 z1).mono ?_; rintro e w4 ⟨rfl, hb⟩
  have B3 := Lib.hid (B2.out.trans (hb.mono B2.out.size))
  clear hb
  go_wp2_with fail
  refine (parseF_any _ _ (HF.out.below B3.out) (textB_size _ _ _ (by omega) feat_len)).mono ?_; rintro e w5 ⟨rfl, hb⟩
  have B4 := Lib.hid (B3.out.trans (hb.mono B3.out.size))
  clear hb
  go_wp2_with fail
  refine (parseW_any s _ (HT.out.below B4.out) hs').mono ?_; rintro e w6 ⟨rfl, hb⟩
  have B5 := Lib.hid (B4.out.trans (hb.mono B4.out.size))
  clear hb
  go_wp2_with fail
  refine (textW_any (prV wordB 6 s) _ (HT.out.below B5.out) (prV_bd s).1 (prV_bd s).2).mono ?_; rintro e w7 ⟨rfl, hb⟩
  have B6 := Lib.hid (B5.out.trans (hb.mono B5.out.size))
  clear hb
  rcases HM.out with ⟨m1, m2, m3⟩ | m1 <;> rcases HN.out with ⟨n1, n2, n3⟩ | n1 <;> rcases HS.out with ⟨s1, s2, s3⟩ | s1
  all_goals
    go_wp2
    go_ret
    exact ⟨rfl, B6.out⟩
end Go.Proofs.YtbpgoopmfofcnaaDoor
