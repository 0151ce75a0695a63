/-
  The walk of TicksBack: it returns true for every input; nothing that lay is turned.
-/
import Derived.Test.YtaekaonelmiokaaTkAlive
import Derived.Deep.QuietTactic
import Derived.BigQuiet
namespace Go.Proofs.Ytaekaonelmiokaa
open Go.RowKit

theorem dl_u {now after : Int} (h : U now) (g : U after) : U (dl now after) := by unfold U dl at *; split <;> omega
theorem lf_u {now d : Int} (h : U now) (g : U d) : U (lf now d) := by unfold U lf at *; (repeat' split) <;> omega
theorem wt_u {l : Int} (b : Bool) (h : U l) : U (wt l b) := by unfold U wt at *; (repeat' split) <;> omega
theorem dl_back {now after : Int} (h : U now) (g : U after) : dl now (lf now (dl now after)) = dl now after := by unfold U dl lf at *; (repeat' split) <;> omega
theorem lf_dl {now after : Int} (h : U now) (g : U after) (hn : dl now after ≠ 18446744073709551615) : lf now (dl now after) = after := by unfold U dl lf at *; (repeat' split) <;> omega
theorem dl_now {now after : Int} (h : U now) (g : U after) : now ≤ dl now after := by unfold U dl at *; split <;> omega
theorem wt_kw {l : Int} (h : U l) : wt l false = 18446744073709551615 ∨ 0 ≤ wt l false ∧ wt l false ≤ 1048576 := by unfold U wt at *; simp only [Bool.false_eq_true, if_false]; (repeat' split) <;> omega
theorem wt_le {l : Int} : wt l false ≤ l := by unfold wt; simp only [Bool.false_eq_true, if_false]; (repeat' split) <;> omega

/-- A kernel's wait, told and read back. -/
theorem back_pair {x s : Int} (hs : sm s = true) (h : x = 18446744073709551615 ∨ 0 ≤ x ∧ x ≤ 1048576) : ∃ c r, pc x s = c ∧ pr x s = r ∧ pe x s = 0 ∧ I c ∧ I r ∧ fw c r s = x ∧ fe c r s = 0 := by
  rcases h with rfl | ⟨h0, h1⟩
  · obtain ⟨a, b, c⟩ := p_never hs
    obtain ⟨d, e⟩ := f_never hs
    exact ⟨-1, -1, a, b, c, by unfold I; omega, by unfold I; omega, d, e⟩
  · obtain ⟨a, b, c⟩ := p_in hs h0 h1
    have hs' := hs
    unfold sm at hs
    simp only [decide_eq_true_eq] at hs
    have hg : good (x / 1000) (x % 1000 * s) s = true := by
      unfold good
      apply decide_eq_true
      rcases hs with rfl | rfl <;> omega
    obtain ⟨d, e⟩ := f_in hs' hg
    refine ⟨x / 1000, x % 1000 * s, a, b, c, by unfold I; omega, by unfold I; rcases hs with rfl | rfl <;> omega, ?_, e⟩
    rw [d]
    rcases hs with rfl | rfl <;> omega
theorem back_single {x : Int} (h : x = 18446744073709551615 ∨ 0 ≤ x ∧ x ≤ 1048576) : ∃ n, sn x = n ∧ se x = 0 ∧ I n ∧ gw n = x ∧ ge n = 0 := by
  rcases h with rfl | ⟨h0, h1⟩
  · exact ⟨-1, s_never.1, s_never.2, by unfold I; omega, g_never.1, g_never.2⟩
  · exact ⟨x, (s_in h1).1, (s_in h1).2, by unfold I; omega, (g_in h0 h1).1, (g_in h0 h1).2⟩

set_option maxRecDepth 100000 in
set_option maxHeartbeats 4000000 in
theorem back_any (now after l : Int) (w : World) (hn : U now) (ha : U after) (hl : U l) :
    Calls Try.prog 6 #[.int .u64 now, .int .u64 after, .int .u64 l] w fun e w' => e = .returned (.bool true) ∧ w = w' := by
  have A := Lib.hid (alive_any w)
  have hd := dl_u hn ha
  have hb := dl_back hn ha
  have hld := lf_dl hn ha
  have hdn := dl_now hn ha
  have D1 := dl_any now after w hn ha
  have F1 := lf_any now (dl now after) w hn hd
  have D2 := dl_val w hn (lf_u hn hd) hb
  obtain ⟨d, hdd⟩ : ∃ d, dl now after = d := ⟨_, rfl⟩
  rw [hdd] at hd hld hdn D1 F1 D2
  obtain ⟨f, hff⟩ : ∃ f, lf now d = f := ⟨_, rfl⟩
  rw [hff] at hld F1 D2
  have hd1 : d = 18446744073709551615 ∨ (d != 18446744073709551615) = true ∧ f = after := by
    by_cases h : d = 18446744073709551615
    · exact .inl h
    · exact .inr ⟨by simpa using h, hld h⟩
  have HD := Lib.hid (And.intro D1 (And.intro F1 D2))
  have hk := wt_kw hl
  have hw := wt_le (l := l)
  have T := wt_any l false w hl
  have hwu := wt_u false hl
  obtain ⟨x, hx⟩ : ∃ x, wt l false = x := ⟨_, rfl⟩
  rw [hx] at hk hw T hwu
  obtain ⟨c1, r1, p1, p2, p3, p4, p5, p6, p7⟩ := back_pair (x := x) (s := 1000) (by decide) hk
  obtain ⟨c2, r2, q1, q2, q3, q4, q5, q6, q7⟩ := back_pair (x := x) (s := 1000000) (by decide) hk
  obtain ⟨m, s1, s2, s3, s4, s5⟩ := back_single hk
  have HT := Lib.hid T
  have HP1 := Lib.hid (pair_val w hwu (s := 1000) ⟨by decide, by decide⟩ ⟨p1, p2, p3⟩)
  have HP2 := Lib.hid (pair_val w hwu (s := 1000000) ⟨by decide, by decide⟩ ⟨q1, q2, q3⟩)
  have HF1 := Lib.hid (from_val w p4 p5 (s := 1000) ⟨by decide, by decide⟩ ⟨p6, p7⟩)
  have HF2 := Lib.hid (from_val w q4 q5 (s := 1000000) ⟨by decide, by decide⟩ ⟨q6, q7⟩)
  have HS1 := Lib.hid (single_val w hwu ⟨s1, s2⟩)
  have HG1 := Lib.hid (fromSingle_val w s3 ⟨s4, s5⟩)
  clear p1 p2 p3 p4 p5 p6 p7 q1 q2 q3 q4 q5 q6 q7 s1 s2 s3 s4 s5 T D1 F1 D2 hk hx hdd hff hld hb hn ha hl hd hwu
  rcases hd1 with rfl | ⟨hd1, rfl⟩
  all_goals
    go_enter Try.func6, Try.ntmps6
    go_wp2_with fail
    refine A.out.mono ?_; rintro e w' ⟨rfl, rfl⟩
    go_wp2_with fail
    refine HD.out.1.mono ?_; rintro e w' ⟨rfl, rfl⟩
    go_wp2_with fail
    refine HD.out.2.1.mono ?_; rintro e w' ⟨rfl, rfl⟩
    go_wp2_with fail
    refine HD.out.2.2.mono ?_; rintro e w' ⟨rfl, rfl⟩
    go_wp2_with fail
    try (refine HD.out.2.1.mono ?_; rintro e w' ⟨rfl, rfl⟩)
    try go_wp2_with fail
    refine HT.out.mono ?_; rintro e w' ⟨rfl, rfl⟩
    go_wp2_with fail
    refine HP1.out.mono ?_; rintro e w' ⟨rfl, rfl⟩
    go_wp2_with fail
    refine HF1.out.mono ?_; rintro e w' ⟨rfl, rfl⟩
    go_wp2_with fail
    refine HP2.out.mono ?_; rintro e w' ⟨rfl, rfl⟩
    go_wp2_with fail
    refine HF2.out.mono ?_; rintro e w' ⟨rfl, rfl⟩
    go_wp2_with fail
    refine HS1.out.mono ?_; rintro e w' ⟨rfl, rfl⟩
    go_wp2_with fail
    refine HG1.out.mono ?_; rintro e w' ⟨rfl, rfl⟩
    go_wp2_with fail
    go_ret
    exact ⟨rfl, rfl⟩
end Go.Proofs.Ytaekaonelmiokaa
