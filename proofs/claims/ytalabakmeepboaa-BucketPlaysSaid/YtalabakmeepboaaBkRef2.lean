/-
  The reference's bucket: Take, Borrow, When, Set.
-/
import Derived.Test.YtalabakmeepboaaBkRef
namespace Go.Proofs.Ytalabakmeepboaa
open Go.RowKit

section
variable {w : World} {k : Nat} {s : S} {now n : Int}
theorem rtake (H : Rk w k s) (hn : U now) (hi : I n) :
    Calls Try.prog 13 #[.pointer (some ⟨k, 0, none⟩), .int .u64 now, .int .i64 n] w fun x w' => x = .returned (.int .i64 (takeN (s.pass now) n)) ∧ Rsd w k ((s.pass now).less (takeN (s.pass now) n)) w' := by
  have HP := Lib.hid (rcomes H hn)
  have hok := H.ok.pass hn
  have HO := Lib.hid (hok.take (n := n))
  have ht1 := hok.t1
  have htb := hok.tb
  have hb1 := hok.b1
  obtain ⟨i0, i1⟩ := hi
  have HT := Lib.hid (show takeN (s.pass now) n = if min n (s.pass now).t < 1 then 0 else min n (s.pass now).t from rfl)
  obtain ⟨u, hu⟩ : ∃ u, u = s.pass now := ⟨_, rfl⟩
  rw [← hu] at HP HO HT ht1 htb hb1 ⊢
  clear H hok hn hu
  by_cases h1 : n < 1
  · have HE := Lib.hid (show takeN u n = 0 by rw [HT.out, if_pos (by omega)])
    go_enter Try.func13, Try.ntmps13
    go_wp2_with fail
    refine HP.out.mono ?_
    rintro e w1 ⟨rfl, hp⟩
    have H2 := Lib.hid hp
    clear hp
    go_wp2_with fail
    go_ret
    rw [HE.out, S.less_zero]
    exact ⟨rfl, H2.out⟩
  by_cases h2 : u.t < 1
  · have HE := Lib.hid (show takeN u n = 0 by rw [HT.out, if_pos (by omega)])
    have h1' : 1 ≤ n := by omega
    go_enter Try.func13, Try.ntmps13
    go_wp2_with fail
    refine HP.out.mono ?_
    rintro e w1 ⟨rfl, hp⟩
    obtain ⟨c0, c1, c2, c3, c4⟩ := hp.1.cells
    have hk := hp.1.lt
    have H2 := Lib.hid hp
    clear hp c0 c1 c2 c4
    go_wp2_with fail
    go_ret
    rw [HE.out, S.less_zero]
    exact ⟨rfl, H2.out⟩
  have h1' : 1 ≤ n := by omega
  have h2' : 1 ≤ u.t := by omega
  clear h1 h2
  by_cases hnt : u.t < n
  · have HE := Lib.hid (show takeN u n = u.t by rw [HT.out, if_neg (by omega)]; omega)
    go_enter Try.func13, Try.ntmps13
    go_wp2_with fail
    refine HP.out.mono ?_
    rintro e w1 ⟨rfl, hp⟩
    obtain ⟨c0, c1, c2, c3, c4⟩ := hp.1.cells
    have hk := hp.1.lt
    have f3 := hp.1.blk.frozen 3
    have H2 := Lib.hid hp
    clear hp c0 c1 c2 c4
    go_wp2_with fail
    go_ret
    have HO := HO.out
    rw [HE.out] at HO ⊢
    obtain ⟨h1, h2⟩ := H2.out
    exact ⟨rfl, by have := h1.setT _ HO; simpa [S.setT, S.less] using this, h2.setCell (p := ⟨k, 3, none⟩) rfl _⟩
  · have hnt' : n ≤ u.t := by omega
    have HE := Lib.hid (show takeN u n = n by rw [HT.out, if_neg (by omega)]; omega)
    go_enter Try.func13, Try.ntmps13
    go_wp2_with fail
    refine HP.out.mono ?_
    rintro e w1 ⟨rfl, hp⟩
    obtain ⟨c0, c1, c2, c3, c4⟩ := hp.1.cells
    have hk := hp.1.lt
    have f3 := hp.1.blk.frozen 3
    have H2 := Lib.hid hp
    clear hp c0 c1 c2 c4
    go_wp2_with fail
    go_ret
    have HO := HO.out
    rw [HE.out] at HO ⊢
    obtain ⟨h1, h2⟩ := H2.out
    exact ⟨rfl, by have := h1.setT _ HO; simpa [S.setT, S.less] using this, h2.setCell (p := ⟨k, 3, none⟩) rfl _⟩

theorem rbor (H : Rk w k s) (hn : U now) (hi : I n) :
    Calls Try.prog 15 #[.pointer (some ⟨k, 0, none⟩), .int .u64 now, .int .i64 n] w fun x w' => x = .returned (.int .i64 (borN (s.pass now) n)) ∧ Rsd w k (borS (s.pass now) n) w' := by
  have HP := Lib.hid (rcomes H hn)
  have hok := H.ok.pass hn
  have HO := Lib.hid (hok.bor (n := n))
  have ht1 := hok.t1
  have htb := hok.tb
  have hb1 := hok.b1
  obtain ⟨i0, i1⟩ := hi
  have HB := Lib.hid (@borB_yes (s.pass now) n)
  unfold borN
  unfold borS at HO ⊢
  obtain ⟨u, hu⟩ : ∃ u, u = s.pass now := ⟨_, rfl⟩
  rw [← hu] at HP HO HB ht1 htb hb1 ⊢
  clear H hok hn hu
  cases hbb : borB u n with
  | true =>
    obtain ⟨a0, a1, a2⟩ := HB.out.1 hbb
    rw [hbb] at HO
    clear hbb
    go_enter Try.func15, Try.ntmps15
    go_wp2_with fail
    refine HP.out.mono ?_
    rintro e w2 ⟨rfl, hp⟩
    obtain ⟨c0, c1, c2, c3, c4⟩ := hp.1.cells
    have hk := hp.1.lt
    have f3 := hp.1.blk.frozen 3
    have H2 := Lib.hid hp
    clear hp c0 c1 c2 c4
    go_wp2_with fail
    go_ret
    obtain ⟨h1, h2⟩ := H2.out
    exact ⟨rfl, by have := h1.setT _ HO.out; simpa [S.setT, S.less] using this, h2.setCell (p := ⟨k, 3, none⟩) rfl _⟩
  | false =>
    have hno : n < 0 ∨ 2147483647 < n ∨ u.t - n < -2147483647 := by
      have := (not_congr HB.out).1 (by rw [hbb]; simp)
      omega
    clear hbb
    by_cases h0 : n < 0
    · clear hno
      go_enter Try.func15, Try.ntmps15
      go_wp2_with fail
      refine HP.out.mono ?_
      rintro e w2 ⟨rfl, hp⟩
      have H2 := Lib.hid hp
      clear hp
      go_wp2_with fail
      go_ret
      exact ⟨rfl, H2.out⟩
    by_cases h1 : 2147483647 < n
    · clear hno
      go_enter Try.func15, Try.ntmps15
      go_wp2_with fail
      refine HP.out.mono ?_
      rintro e w2 ⟨rfl, hp⟩
      have H2 := Lib.hid hp
      clear hp
      go_wp2_with fail
      go_ret
      exact ⟨rfl, H2.out⟩
    · have h2 : u.t - n < -2147483647 := by omega
      have h3 : 0 ≤ n := by omega
      have h4 : n ≤ 2147483647 := by omega
      clear hno
      go_enter Try.func15, Try.ntmps15
      go_wp2_with fail
      refine HP.out.mono ?_
      rintro e w2 ⟨rfl, hp⟩
      obtain ⟨c0, c1, c2, c3, c4⟩ := hp.1.cells
      have hk := hp.1.lt
      have H2 := Lib.hid hp
      clear hp c0 c1 c2 c4
      go_wp2_with fail
      go_ret
      exact ⟨rfl, H2.out⟩

theorem Rsd.drewN {w1 : World} {s1 : S} (h : Rsd w k s1 w1) (n : Nat) : Rsd w k s1 (w1.drewN n) := ⟨h.1.drewN n, h.2.drewN n⟩
theorem rwhen (H : Rk w k s) (hn : U now) (hi : I n) :
    Calls Try.prog 17 #[.pointer (some ⟨k, 0, none⟩), .int .u64 now, .int .i64 n] w fun x w' => x = .returned (.int .u64 (whenN (s.pass now) now n)) ∧ Rsd w k (s.pass now) w' := by
  have HP := Lib.hid (rcomes H hn)
  have hok := H.ok.pass hn
  have hat := S.pass_at H.ok now
  obtain ⟨i0, i1⟩ := hi
  unfold whenN
  obtain ⟨u, hu⟩ : ∃ u, u = s.pass now := ⟨_, rfl⟩
  rw [← hu] at HP hok hat ⊢
  have hn' := hn
  obtain ⟨n0, n1⟩ := hn'
  unfold S.At at hat
  clear H hu hn
  have htb := hok.tb
  by_cases h0 : u.b < n
  · rw [if_pos h0]
    have h1 : u.t < n := by omega
    clear hok hat
    go_enter Try.func17, Try.ntmps17
    go_wp2_with fail
    refine HP.out.mono ?_
    rintro e w2 ⟨rfl, hp⟩
    obtain ⟨c0, c1, c2, c3, c4⟩ := hp.1.cells
    have hk := hp.1.lt
    have H2 := Lib.hid hp
    clear hp c0 c2 c4
    go_wp2_with fail
    go_ret
    exact ⟨rfl, H2.out⟩
  rw [if_neg h0]
  have h0' : n ≤ u.b := by omega
  clear h0
  by_cases h1 : n ≤ u.t
  · rw [if_pos h1]
    clear hok hat
    go_enter Try.func17, Try.ntmps17
    go_wp2_with fail
    refine HP.out.mono ?_
    rintro e w2 ⟨rfl, hp⟩
    obtain ⟨c0, c1, c2, c3, c4⟩ := hp.1.cells
    have hk := hp.1.lt
    have H2 := Lib.hid hp
    clear hp c0 c1 c2 c4
    go_wp2_with fail
    go_ret
    exact ⟨rfl, H2.out⟩
  rw [if_neg h1]
  have h1' : u.t < n := by omega
  clear h1
  have hm1 := hok.m1
  have ht1 := hok.t1
  have hb1 := hok.b1
  have hn1 : n ≤ 2147483647 := by omega
  have hc1 := cnt_up (t := u.t) (n := n) hm1 (by omega)
  have hdoc := cnt_doc hm1 h1'
  have hd0 := Int.ediv_nonneg (show 0 ≤ n - u.t by omega) (show 0 ≤ u.m by omega)
  have he1 := hok.e1
  have he2 := hok.e2
  have hcc0 := hok.c0
  have hcc1 := hok.c1
  have hr1 : 1 ≤ cnt u.m u.t n := by
    unfold cnt
    rw [if_neg (by omega)]
    have := Int.ediv_nonneg (show 0 ≤ n - u.t - 1 by omega) (show 0 ≤ u.m by omega)
    omega
  obtain ⟨r, hr⟩ : ∃ r, r = cnt u.m u.t n := ⟨_, rfl⟩
  rw [← hr] at hc1 hdoc hr1 ⊢
  have m1 := mul_up (p := r) (m := u.e) (P := 4294967294) (M := 1048576) (by omega) (by omega) hc1 he2
  have m3 : u.e ≤ r * u.e := by
    have := mul_ge (p := u.e) (m := r) (by omega) hr1
    rw [Int.mul_comm]; exact this
  obtain ⟨q, hq⟩ : ∃ q, q = r * u.e := ⟨_, rfl⟩
  rw [← hq] at m1 m3 ⊢
  have wq : IntKind.u64.wrap (r * u.e) = q := by rw [← hq, IntKind.wrap_u64]; omega
  have hqe : r * u.e = q := hq.symm
  have hlk : IntKind.i64.wrap (n - u.t) = n - u.t := by rw [IntKind.wrap_i64]; omega
  obtain ⟨v, hv⟩ : ∃ v, v = (n - u.t) / u.m := ⟨_, rfl⟩
  obtain ⟨z, hz⟩ : ∃ z, z = (n - u.t) % u.m := ⟨_, rfl⟩
  rw [← hv] at hd0 hdoc
  rw [← hz] at hdoc
  have hve : (n - u.t) / u.m = v := hv.symm
  have hze : (n - u.t) % u.m = z := hz.symm
  have ways : (z = 0 ∧ v = r) ∨ (z ≠ 0 ∧ v + 1 = r) := by
    by_cases h : z = 0
    · rw [if_pos h] at hdoc; exact .inl ⟨h, hdoc.symm⟩
    · rw [if_neg h] at hdoc; exact .inr ⟨h, hdoc.symm⟩
  have HW := Lib.hid (show ∀ A, (A = u.c + q ∧ u.c + q ≤ 18446744073709551615) ∨ (A = 18446744073709551615 ∧ 18446744073709551615 < u.c + q) → A = dlN u.c q from fun A h => by
    unfold dlN
    split <;> omega)
  clear hok hr hq hv hz hdoc hn1
  go_enter Try.func17, Try.ntmps17
  go_wp2_with fail
  refine HP.out.mono ?_
  rintro e w2 ⟨rfl, hp⟩
  obtain ⟨c0, c1, c2, c3, c4⟩ := hp.1.cells
  have hk := hp.1.lt
  have H2 := Lib.hid hp
  clear hp
  rcases ways with ⟨hz0, hvr⟩ | ⟨hz0, hvr⟩
  · subst hz0
    subst hvr
    by_cases hov : u.c + q ≤ 18446744073709551615
    · have wA : IntKind.u64.wrap (u.c + q) = u.c + q := by rw [IntKind.wrap_u64]; omega
      have hna : now < u.c + q := by omega
      have hnl : ¬ u.c + q < u.c := by omega
      go_wp2_with fail
      go_quiet (fail)
      go_wp2_with fail
      go_ret
      exact ⟨ret_int (HW.out _ (by omega)), H2.out.drewN _⟩
    · have wA : IntKind.u64.wrap (u.c + q) = u.c + q - 18446744073709551616 := by rw [IntKind.wrap_u64]; omega
      have hnl : u.c + q - 18446744073709551616 < u.c := by omega
      go_wp2_with fail
      go_quiet (fail)
      go_wp2_with fail
      go_ret
      exact ⟨ret_int (HW.out _ (by omega)), H2.out.drewN _⟩
  · have hzb : (z == 0) = false := by simpa using hz0
    have hv1 : v = r - 1 := by omega
    by_cases hov : u.c + q ≤ 18446744073709551615
    · have wA : IntKind.u64.wrap (u.c + q) = u.c + q := by rw [IntKind.wrap_u64]; omega
      have hna : now < u.c + q := by omega
      have hnl : ¬ u.c + q < u.c := by omega
      clear hv1
      go_wp2_with fail
      go_quiet (fail)
      go_wp2_with fail
      go_ret
      exact ⟨ret_int (HW.out _ (by omega)), H2.out.drewN _⟩
    · have wA : IntKind.u64.wrap (u.c + q) = u.c + q - 18446744073709551616 := by rw [IntKind.wrap_u64]; omega
      have hnl : u.c + q - 18446744073709551616 < u.c := by omega
      clear hv1
      go_wp2_with fail
      go_quiet (fail)
      go_wp2_with fail
      go_ret
      exact ⟨ret_int (HW.out _ (by omega)), H2.out.drewN _⟩

set_option maxHeartbeats 1000000 in
theorem rset_yes {m e b : Int} (H : Rk w k s) (hn : U now) (hr : rateB m e b = true) :
    Calls Try.prog 19 #[.pointer (some ⟨k, 0, none⟩), .int .u64 now, .int .i64 m, .int .u64 e, .int .i64 b] w fun x w' => x = .returned (.int .i64 0) ∧ Rsd w k ((s.pass now).set m e b) w' := by
  have HM := Lib.hid (fun w => may_yes w hr)
  have HP := Lib.hid (rcomes H hn)
  have HO := Lib.hid ((H.ok.pass hn).set hr)
  obtain ⟨u, hu⟩ : ∃ u, u = s.pass now := ⟨_, rfl⟩
  rw [← hu] at HP HO ⊢
  clear H hr hn hu
  rcases (show (b < u.t ∧ min u.t b = b) ∨ (¬ b < u.t ∧ min u.t b = u.t) by omega) with ⟨hm, hv⟩ | ⟨hm, hv⟩
  all_goals
    have HV := Lib.hid hv
    clear hv
    go_enter Try.func19, Try.ntmps19
    go_wp2_with fail
    refine (HM.out _).mono ?_
    rintro x1 w1 ⟨rfl, rfl⟩
    go_wp2_with fail
    refine HP.out.mono ?_
    rintro x3 w3 ⟨rfl, hp⟩
    obtain ⟨c0, c1, c2, c3, c4⟩ := hp.1.cells
    have hk := hp.1.lt
    have f0 := hp.1.blk.frozen 0
    have f1 := hp.1.blk.frozen 1
    have f2 := hp.1.blk.frozen 2
    have f3 := hp.1.blk.frozen 3
    have b4 := ((hp.1.blk.set_ 0 (.int .i64 m)).set_ 2 (.int .u64 e)).set_ 1 (.int .i64 b)
    have k4 : Kept (fun i => i = k) w (((w3.setCell ⟨k, 0, none⟩ (.int .i64 m)).setCell ⟨k, 2, none⟩ (.int .u64 e)).setCell ⟨k, 1, none⟩ (.int .i64 b)) :=
      ((hp.2.setCell (p := ⟨k, 0, none⟩) rfl _).setCell (p := ⟨k, 2, none⟩) rfl _).setCell (p := ⟨k, 1, none⟩) rfl _
    have H4 := Lib.hid (And.intro b4 k4)
    clear hp b4 k4
    go_wp2_with fail
    go_ret
    refine ⟨rfl, ⟨?_, HO.out⟩, H4.out.2.setCell (p := ⟨k, 3, none⟩) rfl _⟩
    have hb4 := Blk.set_ H4.out.1 3 (.int .i64 (min u.t b))
    unfold S.set
    rw [HV.out] at hb4 ⊢
    simp at hb4
    exact hb4
theorem rset_no {m e b : Int} (H : Rk w k s) (hr : rateB m e b = false) :
    Calls Try.prog 19 #[.pointer (some ⟨k, 0, none⟩), .int .u64 now, .int .i64 m, .int .u64 e, .int .i64 b] w fun x w' => x = .returned (.int .i64 80) ∧ Rsd w k s w' := by
  have HM := Lib.hid (fun w => may_no w hr)
  have HB := Lib.hid H
  clear H hr
  go_enter Try.func19, Try.ntmps19
  go_wp2_with fail
  refine (HM.out _).mono ?_
  rintro x1 w1 ⟨rfl, rfl⟩
  go_wp2_with fail
  go_ret
  exact ⟨rfl, HB.out, Kept.refl _ _⟩
theorem rset {m e b : Int} (H : Rk w k s) (hn : U now) :
    Calls Try.prog 19 #[.pointer (some ⟨k, 0, none⟩), .int .u64 now, .int .i64 m, .int .u64 e, .int .i64 b] w fun x w' => x = .returned (.int .i64 (setN m e b)) ∧ Rsd w k (setS s now m e b) w' := by
  unfold setN setS
  cases h : rateB m e b with
  | true => exact rset_yes H hn h
  | false => exact rset_no H h
end
end Go.Proofs.Ytalabakmeepboaa
