/-
  BucketSplit.
-/
import Derived.Test.YtalabakmeepboaaBkLaw
namespace Go.Proofs.Ytalabakmeepboaa
open Go.RowKit

section
variable {m e b now more n p : Int}
theorem split_skip (w : World) (h : n < 0 ∨ p < 0 ∨ 1099511627776 < n ∨ 1099511627776 < p ∨ 1152921504606846976 < now) :
    Calls Try.prog 8 #[.agg #[.int .i64 m, .int .u64 e, .int .i64 b], .int .u64 now, .int .u32 more, .int .i64 n, .int .i64 p] w fun x w' => x = .returned (.bool true) ∧ Below w.heap.size w w' := by
  by_cases h1 : n < 0
  rotate_left
  by_cases h2 : p < 0
  rotate_left
  by_cases h3 : 1099511627776 < n
  rotate_left
  by_cases h4 : 1099511627776 < p
  rotate_left
  have h5 : 1152921504606846976 < now := by omega
  all_goals
    clear h
    go_enter Try.func8, Try.ntmps8
    go_wp2_with fail
    refine (alive_any _).mono ?_
    rintro x w1 ⟨rfl, hb⟩
    have HB := Lib.hid (((Below.refl _ w).alloc (Nat.le_refl _) _).trans (hb.mono (by simp)))
    clear hb
    go_wp2_with fail
    go_ret
    exact ⟨rfl, HB.out⟩

theorem split_no (w : World) (h1 : 0 ≤ n) (h2 : 0 ≤ p) (h3 : n ≤ 1099511627776) (h4 : p ≤ 1099511627776) (h0 : 0 ≤ now) (h5 : now ≤ 1152921504606846976) (hr : rateB m e b = false) :
    Calls Try.prog 8 #[.agg #[.int .i64 m, .int .u64 e, .int .i64 b], .int .u64 now, .int .u32 more, .int .i64 n, .int .i64 p] w fun x w' => x = .returned (.bool true) ∧ Below w.heap.size w w' := by
  have HN := Lib.hid (fun (w : World) => new_no (now := now) w hr)
  have HR := Lib.hid (rtc_new w m e b)
  clear hr
  go_enter Try.func8, Try.ntmps8
  go_wp2_with fail
  refine (alive_any _).mono ?_
  rintro x w1 ⟨rfl, hb⟩
  obtain ⟨d0, d1, d2, -⟩ := HR.out.below hb
  have HR1 := Lib.hid (HR.out.below hb)
  have HB := Lib.hid (((Below.refl _ w).alloc (Nat.le_refl _) _).trans (hb.mono (by simp)))
  clear hb
  go_wp2_with fail
  refine (HN.out _).mono ?_
  rintro x w2 ⟨rfl, hb⟩
  clear d0 d1 d2
  obtain ⟨d0, d1, d2, -⟩ := HR1.out.below hb
  have HB := Lib.hid (HB.out.trans (hb.mono HB.out.size))
  clear hb
  go_wp2_with fail
  refine (HN.out _).mono ?_
  rintro x w3 ⟨rfl, hb⟩
  clear d0 d1 d2
  have HB := Lib.hid (HB.out.trans (hb.mono HB.out.size))
  clear hb
  go_wp2_with fail
  go_ret
  exact ⟨rfl, HB.out⟩

theorem Tb.take_ {B : Nat} {W w : World} {k j : Nat} {s s' u : S} {now n : Int} (T : Tb B W w k s j u) (hn : U now) (hi : I n) {v : Int} (hv : takeN (s.pass now) n = v) (hs : (s.pass now).less v = s') :
    Calls Try.prog 12 #[.pointer (some ⟨k, 0, none⟩), .int .u64 now, .int .i64 n] w fun x w' => x = .returned (.int .i64 v) ∧ Tb B W w' k s' j u := by
  subst hs; subst hv; exact T.take hn hi
theorem Tb.hav_ {B : Nat} {W w : World} {k j : Nat} {s s' u : S} {now : Int} (T : Tb B W w k s j u) (hn : U now) {v : Int} (hs : s.pass now = s') (hv : s'.t = v) :
    Calls Try.prog 21 #[.pointer (some ⟨k, 0, none⟩), .int .u64 now] w fun x w' => x = .returned (.int .i64 v) ∧ Tb B W w' k s' j u := by
  subst hs; subst hv; exact T.have_ hn

set_option maxHeartbeats 1000000 in
theorem split_yes (w : World) (h1 : 0 ≤ n) (h2 : 0 ≤ p) (h3 : n ≤ 1099511627776) (h4 : p ≤ 1099511627776) (h0 : 0 ≤ now) (h5 : now ≤ 1152921504606846976) (hr : rateB m e b = true) (hm0 : 0 ≤ more) (hm1 : more ≤ 4294967295) :
    Calls Try.prog 8 #[.agg #[.int .i64 m, .int .u64 e, .int .i64 b], .int .u64 now, .int .u32 more, .int .i64 n, .int .i64 p] w fun x w' => x = .returned (.bool true) ∧ Below w.heap.size w w' := by
  have un : U now := ⟨h0, by omega⟩
  have HN := Lib.hid (fun (w : World) => new_yes (now := now) w hr un)
  have HR := Lib.hid (rtc_new w m e b)
  have ut : U (now + more) := ⟨by omega, by omega⟩
  have hok := (S.Ok.fresh hr un).pass ut
  have hat := S.pass_at (S.Ok.fresh hr un) (now + more)
  have hft := S.fresh_pass (now := now) (t := now + more) hr
  obtain ⟨r1, r2, r3, r4, r5⟩ := rateB_yes.1 hr
  clear hr
  obtain ⟨s1, hs1⟩ : ∃ s1, s1 = (S.fresh m e b now).pass (now + more) := ⟨_, rfl⟩
  rw [← hs1] at hok hat hft
  have st0 : s1.pass (now + more) = s1 := S.pass_stay hok hat
  -- the two Takes, and the one
  obtain ⟨X, hX⟩ : ∃ X, X = takeN s1 n := ⟨_, rfl⟩
  have eX : X = min n b := by rw [hX, takeN_pos h1 (by omega), hft]
  have hokX : (s1.less X).Ok := by rw [hX]; exact hok.take
  have st1 : (s1.less X).pass (now + more) = s1.less X := S.pass_stay hokX hat
  obtain ⟨Y, hY⟩ : ∃ Y, Y = takeN (s1.less X) p := ⟨_, rfl⟩
  have eY : Y = min p (b - X) := by
    have e0 : (s1.less X).t = b - X := by show s1.t - X = b - X; omega
    rw [hY, takeN_pos h2 (by omega), e0]
  have hokY : ((s1.less X).less Y).Ok := by rw [hY]; exact hokX.take
  have st2 : ((s1.less X).less Y).pass (now + more) = (s1.less X).less Y := S.pass_stay hokY hat
  obtain ⟨Z, hZ⟩ : ∃ Z, Z = takeN s1 (n + p) := ⟨_, rfl⟩
  have eZ : Z = min (n + p) b := by rw [hZ, takeN_pos (by omega) (by omega), hft]
  have hokZ : (s1.less Z).Ok := by rw [hZ]; exact hok.take
  have st3 : (s1.less Z).pass (now + more) = s1.less Z := S.pass_stay hokZ hat
  have hsum : X + Y = Z := by omega
  have hZ0 : 0 ≤ Z := by omega
  have hZ1 : Z ≤ b := by omega
  have hX0 : 0 ≤ X := by omega
  have hX1 : X ≤ b := by omega
  have hY0 : 0 ≤ Y := by omega
  have hY1 : Y ≤ b := by omega
  have t2 : ((s1.less X).less Y).t = b - Z := by show s1.t - X - Y = b - Z; omega
  have t3 : (s1.less Z).t = b - Z := by show s1.t - Z = b - Z; omega
  have eA : (if b < n + p then b else n + p) = Z := by rw [eZ]; split <;> omega
  have eB : (if n + p < b then n + p else b) = Z := by rw [eZ]; split <;> omega
  have HF := Lib.hid (And.intro hs1 (And.intro st0 (And.intro st1 (And.intro st2 (And.intro st3 (And.intro t2 (And.intro t3 (And.intro hX (And.intro hY (And.intro hZ hft))))))))))
  clear hs1 st0 st1 st2 st3 t2 t3 hX hY hZ hft eX eY eZ hokX hokY hokZ hat hok
  go_enter Try.func8, Try.ntmps8
  go_wp2_with fail
  refine (alive_any _).mono ?_
  rintro x w1 ⟨rfl, hb⟩
  obtain ⟨d0, d1, d2, -⟩ := HR.out.below hb
  have HR1 := Lib.hid (HR.out.below hb)
  have HB := Lib.hid (((Below.refl _ w).alloc (Nat.le_refl _) _).trans (hb.mono (by simp)))
  clear hb
  go_wp2_with fail
  refine (HN.out _).mono ?_
  rintro x w2 hN
  obtain ⟨k, rfl, T0⟩ := Ob.made rfl hN
  have T : Ob w.heap.size w w2 k (S.fresh m e b now) := ⟨T0.a, by have := T0.hk; have := HB.out.size; omega, HB.out.trans (T0.bel.mono HB.out.size)⟩
  clear d0 d1 d2
  obtain ⟨d0, d1, d2, -⟩ := HR1.out.below T0.bel
  have HT := Lib.hid T
  clear hN T0 T
  go_wp2_with fail
  refine (HN.out _).mono ?_
  rintro x w3 hN
  obtain ⟨j, rfl, T⟩ := Tb.made HT.out hN
  have HT := Lib.hid (T.hav_ ut (v := b) HF.out.1.symm HF.out.2.2.2.2.2.2.2.2.2.2)
  clear hN T d0 d1 d2
  go_wp2_with fail
  refine HT.out.mono ?_
  rintro x w4 ⟨rfl, T⟩
  have HT := Lib.hid (T.take_ ut (n := n) (by unfold I; omega) (v := X) (s' := s1.less X) (by rw [HF.out.2.1]; exact HF.out.2.2.2.2.2.2.2.1.symm) (by rw [HF.out.2.1]))
  clear T
  go_wp2_with fail
  refine HT.out.mono ?_
  rintro x w5 ⟨rfl, T⟩
  have HT := Lib.hid (T.take_ ut (n := p) (by unfold I; omega) (v := Y) (s' := (s1.less X).less Y) (by rw [HF.out.2.2.1]; exact HF.out.2.2.2.2.2.2.2.2.1.symm) (by rw [HF.out.2.2.1]))
  clear T
  go_wp2_with fail
  refine HT.out.mono ?_
  rintro x w6 ⟨rfl, T⟩
  have HT := Lib.hid (T.swap.take_ ut (n := n + p) (by unfold I; omega) (v := Z) (s' := s1.less Z) (by rw [← HF.out.1]; exact HF.out.2.2.2.2.2.2.2.2.2.1.symm) (by rw [← HF.out.1]))
  clear T
  go_wp2_with fail
  refine HT.out.mono ?_
  rintro x w7 ⟨rfl, T⟩
  have HT := Lib.hid (T.swap.hav_ ut (v := b - Z) (s' := (s1.less X).less Y) HF.out.2.2.2.1 HF.out.2.2.2.2.2.1)
  clear T
  go_wp2_with fail
  refine HT.out.mono ?_
  rintro x w8 ⟨rfl, T⟩
  have HT := Lib.hid (T.swap.hav_ ut (v := b - Z) (s' := s1.less Z) HF.out.2.2.2.2.1 HF.out.2.2.2.2.2.2.1)
  clear T
  go_wp2_with fail
  refine HT.out.mono ?_
  rintro x w9 ⟨rfl, T⟩
  have HT := Lib.hid T.bel
  clear T
  go_wp2_with fail
  go_ret
  exact ⟨rfl, HT.out⟩
theorem split_any (w : World) (hn : I n) (hp : I p) (hw : U now) (hm0 : 0 ≤ more) (hm1 : more ≤ 4294967295) :
    Calls Try.prog 8 #[.agg #[.int .i64 m, .int .u64 e, .int .i64 b], .int .u64 now, .int .u32 more, .int .i64 n, .int .i64 p] w fun x w' => x = .returned (.bool true) ∧ Below w.heap.size w w' := by
  by_cases h : n < 0 ∨ p < 0 ∨ 1099511627776 < n ∨ 1099511627776 < p ∨ 1152921504606846976 < now
  · exact split_skip w h
  · have h0 := hw.1
    cases hr : rateB m e b with
    | true => exact split_yes w (by omega) (by omega) (by omega) (by omega) h0 (by omega) hr hm0 hm1
    | false => exact split_no w (by omega) (by omega) (by omega) (by omega) h0 (by omega) hr
end
end Go.Proofs.Ytalabakmeepboaa
