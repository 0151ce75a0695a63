/-
  BucketWhen.
-/
import Derived.Test.YtalabakmeepboaaBkLaw
import Derived.Test.YtalabakmeepboaaBkMath
namespace Go.Proofs.Ytalabakmeepboaa
open Go.RowKit

section
variable {B : Nat} {W w : World} {k j : Nat} {s s' u : S} {m e b now n q : Int}
theorem Tb.bor_ (T : Tb B W w k s j u) (hn : U now) (hi : I n) {v : Int} (hv : borN (s.pass now) n = v) (hs : borS (s.pass now) n = s') :
    Calls Try.prog 14 #[.pointer (some ⟨k, 0, none⟩), .int .u64 now, .int .i64 n] w fun x w' => x = .returned (.int .i64 v) ∧ Tb B W w' k s' j u := by
  subst hs; subst hv; exact T.bor hn hi
theorem Tb.whe_ (T : Tb B W w k s j u) (hn : U now) (hi : I n) {v : Int} (hs : s.pass now = s') (hv : whenN s' now n = v) :
    Calls Try.prog 16 #[.pointer (some ⟨k, 0, none⟩), .int .u64 now, .int .i64 n] w fun x w' => x = .returned (.int .u64 v) ∧ Tb B W w' k s' j u := by
  subst hs; subst hv; exact T.when_ hn hi
theorem Tb.hae_ (T : Tb B W w k s j u) (hn : U now) {v : Int} (hv : (s.pass now).t = v) :
    Calls Try.prog 21 #[.pointer (some ⟨k, 0, none⟩), .int .u64 now] w fun x w' => x = .returned (.int .i64 v) ∧ Tb B W w' k (s.pass now) j u := by
  subst hv; exact T.have_ hn

theorem Ob.made2 {w1 : World} (hb : Below W.heap.size W w1) {x : Ending} (h : NewAt w1 s x w) : ∃ k, x = .returned (.tuple #[.pointer (some ⟨k, 0, none⟩), .int .i64 0]) ∧ Ob W.heap.size W w k s := by
  obtain ⟨k, e, a, hk, hb2⟩ := h
  exact ⟨k, e, a, Nat.le_trans hb.size hk, hb.trans (hb2.mono hb.size)⟩
/-- The block of a rate that came in. -/
abbrev rtO (m e b : Int) : Obj := .cells #[.int .i64 m, .int .u64 e, .int .i64 b] 24
theorem end_of {w w' : World} {o : Obj} (h : Below (w.alloc o).heap.size (w.alloc o) w') : Below w.heap.size w w' := ((Below.refl _ w).alloc (Nat.le_refl _) o).trans (h.mono (by simp))

theorem when_no (w : World) (hw : U now) (hr : rateB m e b = false) :
    Calls Try.prog 6 #[.agg #[.int .i64 m, .int .u64 e, .int .i64 b], .int .i64 q, .int .u64 now, .int .i64 n] w fun x w' => x = .returned (.bool true) ∧ Below w.heap.size w w' := by
  obtain ⟨h0, h1⟩ := hw
  have HN := Lib.hid (fun (w : World) => new_no (now := 0) w hr)
  have HR := Lib.hid (rtc_new w m e b)
  clear hr
  go_enter Try.func6, Try.ntmps6
  go_wp2_with fail
  refine (alive_any _).mono ?_
  rintro x w1 ⟨rfl, hb⟩
  obtain ⟨d0, d1, d2, -⟩ := HR.out.below hb
  have HR1 := Lib.hid (HR.out.below hb)
  have HB := Lib.hid (((Below.refl _ w).alloc (Nat.le_refl _) _).trans (hb.mono (by simp)))
  clear hb
  go_wp2_with fail
  refine (HN.out _).mono ?_
  rintro x w2 ⟨rfl, hb⟩
  clear d0 d1 d2
  obtain ⟨d0, d1, d2, -⟩ := HR1.out.below hb
  have HB := Lib.hid (HB.out.trans (hb.mono HB.out.size))
  clear hb
  go_wp2_with fail
  refine (HN.out _).mono ?_
  rintro x w3 ⟨rfl, hb⟩
  clear d0 d1 d2
  have HB := Lib.hid (HB.out.trans (hb.mono HB.out.size))
  clear hb
  go_wp2_with fail
  go_ret
  exact ⟨rfl, HB.out⟩

set_option maxHeartbeats 1000000 in
theorem when_yes (w : World) (hw : U now) (hn : I n) (hq : I q) (hr : rateB m e b = true) :
    Calls Try.prog 6 #[.agg #[.int .i64 m, .int .u64 e, .int .i64 b], .int .i64 q, .int .u64 now, .int .i64 n] w fun x w' => x = .returned (.bool true) ∧ Below w.heap.size w w' := by
  have u0 : U 0 := ⟨by omega, by omega⟩
  have HN := Lib.hid (fun (w : World) => new_yes (now := 0) w hr u0)
  have HR := Lib.hid (rtc_new w m e b)
  have hok := S.Ok.fresh hr u0
  have st0 : (S.fresh m e b 0).pass 0 = S.fresh m e b 0 := S.pass_none hok (Int.le_refl _)
  have hok1 := hok.bor (n := q)
  have hc1 : (borS (S.fresh m e b 0) q).c = 0 := by unfold borS; split <;> rfl
  have hb1 : (borS (S.fresh m e b 0) q).b = b := by unfold borS; split <;> rfl
  obtain ⟨s1, hs1⟩ : ∃ s1, s1 = borS (S.fresh m e b 0) q := ⟨_, rfl⟩
  rw [← hs1] at hok1 hc1 hb1
  have hT0 : 0 ≤ now % 1099511627776 := by have := hw.1; omega
  have hT1 : now % 1099511627776 ≤ 1099511627775 := by have := hw.1; omega
  obtain ⟨h0, h1⟩ := hw
  obtain ⟨T, hT⟩ : ∃ T, T = now % 1099511627776 := ⟨_, rfl⟩
  rw [← hT] at hT0 hT1
  have uT : U T := ⟨hT0, by omega⟩
  have hok2 := hok1.pass uT
  have hst2 : (s1.pass T).pass T = s1.pass T := S.pass_stay hok2 (S.pass_at hok1 T)
  have hb2 : (s1.pass T).b = b := hb1
  obtain ⟨G, hG⟩ : ∃ G, G = borN (S.fresh m e b 0) q := ⟨_, rfl⟩
  have HK := Lib.hid (And.intro st0 (And.intro hs1 hG))
  have hmod : now % 1099511627776 = T := hT.symm
  obtain ⟨i0, i1⟩ := hn
  clear hr st0 hs1 hG hT hok
  by_cases hA : b < n
  · have HV := Lib.hid (show whenN (s1.pass T) T n = 18446744073709551615 by unfold whenN; rw [if_pos (by omega)])
    clear hok1 hok2 hb1 hb2 hc1 hst2
    go_enter Try.func6, Try.ntmps6
    go_wp2_with fail
    refine (alive_any _).mono ?_
    rintro x w1 ⟨rfl, hb⟩
    obtain ⟨d0, d1, d2, -⟩ := HR.out.below hb
    have HB := Lib.hid hb
    clear hb
    go_wp2_with fail
    refine (HN.out _).mono ?_
    rintro x w2 hN
    obtain ⟨k, rfl, TT⟩ := Ob.made2 HB.out hN
    clear d0 d1 d2
    obtain ⟨d0, d1, d2, -⟩ := HR.out.below TT.bel
    have HT := Lib.hid TT
    clear hN TT
    go_wp2_with fail
    refine (HN.out _).mono ?_
    rintro x w3 hN
    obtain ⟨j, rfl, TT⟩ := Tb.made HT.out hN
    have HT := Lib.hid (TT.bor_ u0 (n := q) hq (v := G) (s' := s1) (by rw [HK.out.1]; exact HK.out.2.2.symm) (by rw [HK.out.1]; exact HK.out.2.1.symm))
    clear hN TT d0 d1 d2
    go_wp2_with fail
    refine HT.out.mono ?_
    rintro x w4 ⟨rfl, TT⟩
    have HT := Lib.hid (TT.swap.bor_ u0 (n := q) hq (v := G) (s' := s1) (by rw [HK.out.1]; exact HK.out.2.2.symm) (by rw [HK.out.1]; exact HK.out.2.1.symm))
    clear TT
    go_wp2_with fail
    refine HT.out.mono ?_
    rintro x w5 ⟨rfl, TT⟩
    have HT := Lib.hid (TT.swap.whe_ uT (n := n) ⟨i0, i1⟩ (v := 18446744073709551615) (s' := s1.pass T) rfl HV.out)
    clear TT
    go_wp2_with fail
    refine HT.out.mono ?_
    rintro x w6 ⟨rfl, TT⟩
    obtain ⟨d0, d1, d2, -⟩ := HR.out.below TT.bel
    have HE := Lib.hid TT.bel
    clear TT
    go_wp2_with fail
    go_ret
    exact ⟨rfl, end_of HE.out⟩
  have hA' : n ≤ b := by omega
  by_cases hB : n ≤ (s1.pass T).t
  · have HV := Lib.hid (show whenN (s1.pass T) T n = T by unfold whenN; rw [if_neg (by omega), if_pos hB])
    have HS := Lib.hid hst2
    clear hok1 hok2 hb1 hb2 hc1 hst2 hA
    obtain ⟨t, ht⟩ : ∃ t, t = (s1.pass T).t := ⟨_, rfl⟩
    rw [← ht] at hB
    have HQ := Lib.hid ht
    clear ht
    go_enter Try.func6, Try.ntmps6
    go_wp2_with fail
    refine (alive_any _).mono ?_
    rintro x w1 ⟨rfl, hb⟩
    obtain ⟨d0, d1, d2, -⟩ := HR.out.below hb
    have HB := Lib.hid hb
    clear hb
    go_wp2_with fail
    refine (HN.out _).mono ?_
    rintro x w2 hN
    obtain ⟨k, rfl, TT⟩ := Ob.made2 HB.out hN
    clear d0 d1 d2
    obtain ⟨d0, d1, d2, -⟩ := HR.out.below TT.bel
    have HT := Lib.hid TT
    clear hN TT
    go_wp2_with fail
    refine (HN.out _).mono ?_
    rintro x w3 hN
    obtain ⟨j, rfl, TT⟩ := Tb.made HT.out hN
    have HT := Lib.hid (TT.bor_ u0 (n := q) hq (v := G) (s' := s1) (by rw [HK.out.1]; exact HK.out.2.2.symm) (by rw [HK.out.1]; exact HK.out.2.1.symm))
    clear hN TT d0 d1 d2
    go_wp2_with fail
    refine HT.out.mono ?_
    rintro x w4 ⟨rfl, TT⟩
    have HT := Lib.hid (TT.swap.bor_ u0 (n := q) hq (v := G) (s' := s1) (by rw [HK.out.1]; exact HK.out.2.2.symm) (by rw [HK.out.1]; exact HK.out.2.1.symm))
    clear TT
    go_wp2_with fail
    refine HT.out.mono ?_
    rintro x w5 ⟨rfl, TT⟩
    have HT := Lib.hid (TT.swap.whe_ uT (n := n) ⟨i0, i1⟩ (v := T) (s' := s1.pass T) rfl HV.out)
    clear TT
    go_wp2_with fail
    refine HT.out.mono ?_
    rintro x w6 ⟨rfl, TT⟩
    obtain ⟨d0, d1, d2, -⟩ := HR.out.below TT.bel
    have HT := Lib.hid (TT.hae_ uT (v := t) (by rw [HS.out]; exact HQ.out.symm))
    clear TT
    go_wp2_with fail
    refine HT.out.mono ?_
    rintro x w7 ⟨rfl, TT⟩
    have HE := Lib.hid TT.bel
    clear TT
    go_wp2_with fail
    go_ret
    exact ⟨rfl, end_of HE.out⟩
  · obtain ⟨A, hV, hTA, hA1, hearly, hlate⟩ := when_late (T := T) (n := n) hok1 (by omega) hT0 (by omega) (by omega) (by omega)
    have HV := Lib.hid hV
    obtain ⟨t1, ht1⟩ : ∃ t, t = (s1.pass (A - 1)).t := ⟨_, rfl⟩
    obtain ⟨t2, ht2⟩ : ∃ t, t = ((s1.pass T).pass A).t := ⟨_, rfl⟩
    rw [← ht1] at hearly
    rw [← ht2] at hlate
    have HQ := Lib.hid (And.intro ht1 ht2)
    have uA : U A := ⟨by omega, by omega⟩
    have uA1 : U (A - 1) := ⟨by omega, by omega⟩
    have hne : (A == T) = false := by simp; omega
    have hne2 : (A == 18446744073709551615) = false := by simp; omega
    have hnl : ¬ A < T := by omega
    clear hok1 hok2 hb1 hb2 hc1 hst2 hA hB hV ht1 ht2
    go_enter Try.func6, Try.ntmps6
    go_wp2_with fail
    refine (alive_any _).mono ?_
    rintro x w1 ⟨rfl, hb⟩
    obtain ⟨d0, d1, d2, -⟩ := HR.out.below hb
    have HB := Lib.hid hb
    clear hb
    go_wp2_with fail
    refine (HN.out _).mono ?_
    rintro x w2 hN
    obtain ⟨k, rfl, TT⟩ := Ob.made2 HB.out hN
    clear d0 d1 d2
    obtain ⟨d0, d1, d2, -⟩ := HR.out.below TT.bel
    have HT := Lib.hid TT
    clear hN TT
    go_wp2_with fail
    refine (HN.out _).mono ?_
    rintro x w3 hN
    obtain ⟨j, rfl, TT⟩ := Tb.made HT.out hN
    have HT := Lib.hid (TT.bor_ u0 (n := q) hq (v := G) (s' := s1) (by rw [HK.out.1]; exact HK.out.2.2.symm) (by rw [HK.out.1]; exact HK.out.2.1.symm))
    clear hN TT d0 d1 d2
    go_wp2_with fail
    refine HT.out.mono ?_
    rintro x w4 ⟨rfl, TT⟩
    have HT := Lib.hid (TT.swap.bor_ u0 (n := q) hq (v := G) (s' := s1) (by rw [HK.out.1]; exact HK.out.2.2.symm) (by rw [HK.out.1]; exact HK.out.2.1.symm))
    clear TT
    go_wp2_with fail
    refine HT.out.mono ?_
    rintro x w5 ⟨rfl, TT⟩
    have HT := Lib.hid (TT.swap.whe_ uT (n := n) ⟨i0, i1⟩ (v := A) (s' := s1.pass T) rfl HV.out)
    clear TT
    go_wp2_with fail
    refine HT.out.mono ?_
    rintro x w6 ⟨rfl, TT⟩
    obtain ⟨d0, d1, d2, -⟩ := HR.out.below TT.bel
    have HT := Lib.hid (TT.swap.hae_ uA1 (v := t1) HQ.out.1.symm)
    clear TT
    go_wp2_with fail
    refine HT.out.mono ?_
    rintro x w7 ⟨rfl, TT⟩
    have HT := Lib.hid (TT.swap.hae_ uA (v := t2) HQ.out.2.symm)
    clear TT
    go_wp2_with fail
    refine HT.out.mono ?_
    rintro x w8 ⟨rfl, TT⟩
    have HE := Lib.hid TT.bel
    clear TT
    go_wp2_with fail
    go_ret
    exact ⟨rfl, end_of HE.out⟩
theorem when_law (w : World) (hw : U now) (hn : I n) (hq : I q) :
    Calls Try.prog 6 #[.agg #[.int .i64 m, .int .u64 e, .int .i64 b], .int .i64 q, .int .u64 now, .int .i64 n] w fun x w' => x = .returned (.bool true) ∧ Below w.heap.size w w' := by
  cases hr : rateB m e b with
  | true => exact when_yes w hw hn hq hr
  | false => exact when_no w hw hr
end
end Go.Proofs.Ytalabakmeepboaa
