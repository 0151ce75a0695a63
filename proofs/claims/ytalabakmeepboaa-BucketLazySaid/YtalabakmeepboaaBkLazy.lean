/-
  BucketLazy.
-/
import Derived.Test.YtalabakmeepboaaBkWhen
import Derived.Test.YtalabakmeepboaaBkSplit
import Derived.Test.YtalabakmeepboaaCmArg
namespace Go.Proofs.Ytalabakmeepboaa
open Go.RowKit

section
variable {m e b n : Int} {l : List Int} {A : Option Addr} {c : Nat}
theorem lazy_long (w : World) (h : 60 < l.length) :
    Calls Try.prog 7 #[.agg #[.int .i64 m, .int .u64 e, .int .i64 b], .slice A l.length c, .int .i64 n] w fun x w' => x = .returned (.bool true) ∧ Below w.heap.size w w' := by
  have h' : (60 : Int) < (l.length : Int) := by omega
  go_enter Try.func7, Try.ntmps7
  go_wp2_with fail
  refine (alive_any _).mono ?_
  rintro x w1 ⟨rfl, hb⟩
  have HB := Lib.hid (end_of hb)
  clear hb
  go_wp2_with fail
  go_ret
  exact ⟨rfl, HB.out⟩
theorem lazy_no (w : World) (h : l.length ≤ 60) (hr : rateB m e b = false) :
    Calls Try.prog 7 #[.agg #[.int .i64 m, .int .u64 e, .int .i64 b], .slice A l.length c, .int .i64 n] w fun x w' => x = .returned (.bool true) ∧ Below w.heap.size w w' := by
  have h' : (l.length : Int) ≤ 60 := by omega
  have HN := Lib.hid (fun (w : World) => new_no (now := 0) w hr)
  have HR := Lib.hid (rtc_new w m e b)
  clear hr
  go_enter Try.func7, Try.ntmps7
  go_wp2_with fail
  refine (alive_any _).mono ?_
  rintro x w1 ⟨rfl, hb⟩
  obtain ⟨d0, d1, d2, -⟩ := HR.out.below hb
  have HB := Lib.hid hb
  clear hb
  go_wp2_with fail
  refine (HN.out _).mono ?_
  rintro x w2 ⟨rfl, hb⟩
  have HB := Lib.hid (HB.out.trans (hb.mono HB.out.size))
  clear d0 d1 d2 hb
  obtain ⟨d0, d1, d2, -⟩ := HR.out.below HB.out
  go_wp2_with fail
  refine (HN.out _).mono ?_
  rintro x w3 ⟨rfl, hb⟩
  have HB := Lib.hid (HB.out.trans (hb.mono HB.out.size))
  clear d0 d1 d2 hb
  go_wp2_with fail
  go_ret
  exact ⟨rfl, end_of HB.out⟩

/-- What n tokens in two parts come to, of a full bucket. -/
theorem parts {s : S} {a : Int} (hs : 0 ≤ s.t) (h : (0 ≤ a ∧ a ≤ n) ∨ (n < 0 ∧ a ≤ 0 ∧ n - a ≤ 0)) :
    takeN s a + takeN (s.less (takeN s a)) (n - a) = takeN s n ∧ (s.less (takeN s a)).less (takeN (s.less (takeN s a)) (n - a)) = s.less (takeN s n) := by
  have e : takeN s a + takeN (s.less (takeN s a)) (n - a) = takeN s n := by
    rcases h with ⟨h0, h1⟩ | ⟨h0, h1, h2⟩
    · have e1 := takeN_pos h0 hs
      have ht : (s.less (takeN s a)).t = s.t - takeN s a := rfl
      have e2 := takeN_pos (s := s.less (takeN s a)) (n := n - a) (by omega) (by rw [ht]; omega)
      have e3 := takeN_pos (s := s) (n := n) (by omega) hs
      rw [e2, e3, ht]
      omega
    · rw [takeN_neg (s := s) (n := a) (by omega), takeN_neg (n := n - a) (by omega), takeN_neg (s := s) (n := n) (by omega)]
      rfl
  exact ⟨e, by rw [S.less_less, e]⟩

def LzTo (B : Nat) (W wr : World) (k j : Nat) (s : S) (t : Int) : Prop := Tb B W wr k (s.pass t) j s

set_option maxHeartbeats 2000000 in
theorem lazy_yes (w : World) (h : l.length ≤ 60) (hi : I n) (hr : rateB m e b = true) (hA : ArgN .u32 0 4294967295 w A l) :
    Calls Try.prog 7 #[.agg #[.int .i64 m, .int .u64 e, .int .i64 b], .slice A l.length c, .int .i64 n] w fun x w' => x = .returned (.bool true) ∧ Below w.heap.size w w' := by
  have h' : (l.length : Int) ≤ 60 := by omega
  have u0 : U 0 := ⟨by omega, by omega⟩
  have HN := Lib.hid (fun (w : World) => new_yes (now := 0) w hr u0)
  have HR := Lib.hid (rtc_new w m e b)
  have HA := Lib.hid (hA.below ((Below.refl _ w).alloc (Nat.le_refl _) (rtO m e b)))
  have hok := S.Ok.fresh hr u0
  have st0 : (S.fresh m e b 0).pass 0 = S.fresh m e b 0 := S.pass_none hok (Int.le_refl _)
  obtain ⟨r1, r2, r3, r4, r5⟩ := rateB_yes.1 hr
  obtain ⟨a, ha, hpart⟩ : ∃ a, a = n.tdiv 2 ∧ ((0 ≤ a ∧ a ≤ n) ∨ (n < 0 ∧ a ≤ 0 ∧ n - a ≤ 0)) := by
    refine ⟨_, rfl, ?_⟩
    by_cases hn : 0 ≤ n
    · left; rw [Int.tdiv_eq_ediv_of_nonneg hn]; omega
    · right
      have : n.tdiv 2 = -((-n) / 2) := by
        rw [show n = -(-n) by omega, Int.neg_tdiv, Int.tdiv_eq_ediv_of_nonneg (by omega)]; simp
      omega
  obtain ⟨hp1, hp2⟩ := parts (n := n) (s := S.fresh m e b 0) (a := a) (show 0 ≤ b by omega) hpart
  have hoka := hok.take (n := a)
  have stA : ((S.fresh m e b 0).less (takeN (S.fresh m e b 0) a)).pass 0 = (S.fresh m e b 0).less (takeN (S.fresh m e b 0) a) := S.pass_none hoka (Int.le_refl _)
  have hxb : 0 ≤ takeN (S.fresh m e b 0) n ∧ takeN (S.fresh m e b 0) n ≤ b := ⟨takeN_nn _ _, by have := (takeN_le (S.fresh m e b 0) n).1; have e : (S.fresh m e b 0).t = b := rfl; omega⟩
  have hyb : 0 ≤ takeN (S.fresh m e b 0) a := takeN_nn _ _
  have hzb : 0 ≤ takeN ((S.fresh m e b 0).less (takeN (S.fresh m e b 0) a)) (n - a) := takeN_nn _ _
  have hok1 := hok.take (n := n)
  obtain ⟨X, hX⟩ : ∃ X, X = takeN (S.fresh m e b 0) n := ⟨_, rfl⟩
  obtain ⟨Y, hY⟩ : ∃ Y, Y = takeN (S.fresh m e b 0) a := ⟨_, rfl⟩
  rw [← hX] at hp1 hp2 hxb hok1
  rw [← hY] at hp1 hp2 hyb hzb stA
  obtain ⟨Z, hZ⟩ : ∃ Z, Z = takeN ((S.fresh m e b 0).less Y) (n - a) := ⟨_, rfl⟩
  rw [← hZ] at hp1 hp2 hzb
  obtain ⟨s1, hs1⟩ : ∃ s1, s1 = (S.fresh m e b 0).less X := ⟨_, rfl⟩
  rw [← hs1] at hp2 hok1
  have hc1 : s1.c = 0 := by rw [hs1]; rfl
  have HK := Lib.hid (And.intro st0 (And.intro stA (And.intro hX (And.intro hY (And.intro hZ (And.intro hs1 (And.intro hp2 (And.intro hok1 hc1))))))))
  have ia : I a := by unfold I at *; omega
  have ib : I (n - a) := by unfold I at *; omega
  have hi' := hi
  unfold I at hi' ia ib
  obtain ⟨i0, i1⟩ := hi'
  obtain ⟨j0, j1⟩ := ib
  obtain ⟨hx0, hx1⟩ := hxb
  have hd : n.tdiv 2 = a := ha.symm
  have hd2 : 0 ≤ n → n / 2 = a := fun hn => by rw [← hd, Int.tdiv_eq_ediv_of_nonneg hn]
  clear hr st0 stA hX hY hZ hs1 hp2 hok1 hc1 hok hoka hA ha hpart
  rcases Int.lt_or_le n 0 with hn0 | hn0
  · clear hd2
    go_enter Try.func7, Try.ntmps7
    go_wp2_with fail
    refine (alive_any _).mono ?_
    rintro x w1 ⟨rfl, hb⟩
    obtain ⟨d0, d1, d2, -⟩ := HR.out.below hb
    have HB := Lib.hid hb
    clear hb
    go_wp2_with fail
    refine (HN.out _).mono ?_
    rintro x w2 hN
    obtain ⟨k, rfl, TT⟩ := Ob.made2 HB.out hN
    clear d0 d1 d2
    obtain ⟨d0, d1, d2, -⟩ := HR.out.below TT.bel
    have HT := Lib.hid TT
    clear hN TT
    go_wp2_with fail
    refine (HN.out _).mono ?_
    rintro x w3 hN
    obtain ⟨j, rfl, TT⟩ := Tb.made HT.out hN
    have HT := Lib.hid (TT.take_ u0 (n := n) ⟨i0, i1⟩ (v := X) (s' := s1) (by rw [HK.out.1]; exact HK.out.2.2.1.symm) (by rw [HK.out.1]; exact HK.out.2.2.2.2.2.1.symm))
    clear hN TT d0 d1 d2
    go_wp2_with fail
    refine HT.out.mono ?_
    rintro x w4 ⟨rfl, TT⟩
    have HT := Lib.hid (TT.swap.take_ u0 (n := a) ia (v := Y) (s' := (S.fresh m e b 0).less Y) (by rw [HK.out.1]; exact HK.out.2.2.2.1.symm) (by rw [HK.out.1]))
    clear TT
    go_wp2_with fail
    refine HT.out.mono ?_
    rintro x w5 ⟨rfl, TT⟩
    have HT := Lib.hid (TT.take_ u0 (n := n - a) ⟨j0, j1⟩ (v := Z) (s' := s1) (by rw [HK.out.2.1]; exact HK.out.2.2.2.2.1.symm) (by rw [HK.out.2.1]; exact HK.out.2.2.2.2.2.2.1))
    clear TT
    go_wp2_with fail
    refine HT.out.mono ?_
    rintro x w6 ⟨rfl, TT⟩
    have HT := Lib.hid (show LzTo (w.alloc (rtO m e b)).heap.size (w.alloc (rtO m e b)) w6 k j s1 0 by unfold LzTo; rw [S.pass_none HK.out.2.2.2.2.2.2.2.1 (by have := HK.out.2.2.2.2.2.2.2.2; omega)]; exact TT.swap)
    clear TT
    go_wp2_with fail
    go_loopw [14, 15] (fun t i wr => ∃ (q : Nat) (t0 : Int), i = .int .i64 (q : Int) ∧ t = .int .u64 t0 ∧ q ≤ l.length ∧ 0 ≤ t0 ∧ t0 ≤ (q : Int) * 1048576 ∧ LzTo (w.alloc (rtO m e b)).heap.size (w.alloc (rtO m e b)) wr k j s1 t0) (fun _ i _ => l.length - (intOf i).toNat)
    case atStart => exact ⟨0, 0, rfl, rfl, Nat.zero_le _, Int.le_refl _, by simp, HT.out⟩
    case round =>
      obtain ⟨q, t0, rfl, rfl, hq, ht0, ht1, hL⟩ := hrel
      have ut0 : U t0 := ⟨ht0, by omega⟩
      by_cases hlt : q < l.length
      · obtain ⟨bb, off, g, rfl, hbl, -, ⟨g0, g1⟩, x0⟩ := HA.out.at_ (wr := wr) hL.bel hlt
        have b0 : (0 : Int) ≤ (q : Int) := by omega
        have b1 : (q : Int) < (l.length : Int) := by omega
        have b2 : (q : Int) ≤ 60 := by omega
        have ht2 : t0 ≤ 62914560 := by omega
        have ut1 : U (t0 + g % 1048576) := ⟨by omega, by omega⟩
        have epp : (s1.pass t0).pass (t0 + g % 1048576) = s1.pass (t0 + g % 1048576) := S.pass_pass HK.out.2.2.2.2.2.2.2.1 (by have := HK.out.2.2.2.2.2.2.2.2; omega) (by omega)
        have eps : (s1.pass (t0 + g % 1048576)).pass (t0 + g % 1048576) = s1.pass (t0 + g % 1048576) := S.pass_same HK.out.2.2.2.2.2.2.2.1
        have HX := Lib.hid (And.intro (Tb.hav_ hL ut1 (s' := s1.pass (t0 + g % 1048576)) epp rfl) eps)
        have ht3 : t0 + g % 1048576 ≤ ((q + 1 : Nat) : Int) * 1048576 := by omega
        clear hL epp eps
        go_wp2_with fail
        refine HX.out.1.mono ?_
        rintro x w7 ⟨rfl, TT⟩
        have HX := Lib.hid (TT.whe_ ut1 (n := 1) ⟨by omega, by omega⟩ (s' := s1.pass (t0 + g % 1048576)) HX.out.2 rfl)
        clear TT
        go_wp2_with fail
        refine HX.out.mono ?_
        rintro x w8 ⟨rfl, TT⟩
        have HX := Lib.hid TT
        clear TT
        go_wp2_with fail
        go_roundw
        case rel => exact ⟨q + 1, _, by go_num, rfl, by omega, by omega, ht3, HX.out⟩
        case measure => simp [intOf]; omega
      · obtain rfl : q = l.length := by omega
        have b1 : ¬ ((l.length : Int) < (l.length : Int)) := by omega
        have eps : (s1.pass t0).pass t0 = s1.pass t0 := S.pass_same HK.out.2.2.2.2.2.2.2.1
        have HX := Lib.hid (Tb.hav_ hL ut0 (s' := s1.pass t0) (v := (s1.pass t0).t) eps rfl)
        clear hL eps
        go_wp2_with fail
        refine HX.out.mono ?_
        rintro x w7 ⟨rfl, TT⟩
        have HX := Lib.hid (TT.swap.hav_ ut0 (s' := s1.pass t0) (v := (s1.pass t0).t) rfl rfl)
        clear TT
        go_wp2_with fail
        refine HX.out.mono ?_
        rintro x w8 ⟨rfl, TT⟩
        have HX := Lib.hid (end_of TT.bel)
        clear TT
        go_wp2_with fail
        go_ret
        exact ⟨rfl, HX.out⟩
  · have hd3 : n / 2 = a := hd2 hn0
    clear hd hd2
    go_enter Try.func7, Try.ntmps7
    go_wp2_with fail
    refine (alive_any _).mono ?_
    rintro x w1 ⟨rfl, hb⟩
    obtain ⟨d0, d1, d2, -⟩ := HR.out.below hb
    have HB := Lib.hid hb
    clear hb
    go_wp2_with fail
    refine (HN.out _).mono ?_
    rintro x w2 hN
    obtain ⟨k, rfl, TT⟩ := Ob.made2 HB.out hN
    clear d0 d1 d2
    obtain ⟨d0, d1, d2, -⟩ := HR.out.below TT.bel
    have HT := Lib.hid TT
    clear hN TT
    go_wp2_with fail
    refine (HN.out _).mono ?_
    rintro x w3 hN
    obtain ⟨j, rfl, TT⟩ := Tb.made HT.out hN
    have HT := Lib.hid (TT.take_ u0 (n := n) ⟨i0, i1⟩ (v := X) (s' := s1) (by rw [HK.out.1]; exact HK.out.2.2.1.symm) (by rw [HK.out.1]; exact HK.out.2.2.2.2.2.1.symm))
    clear hN TT d0 d1 d2
    go_wp2_with fail
    refine HT.out.mono ?_
    rintro x w4 ⟨rfl, TT⟩
    have HT := Lib.hid (TT.swap.take_ u0 (n := a) ia (v := Y) (s' := (S.fresh m e b 0).less Y) (by rw [HK.out.1]; exact HK.out.2.2.2.1.symm) (by rw [HK.out.1]))
    clear TT
    go_wp2_with fail
    refine HT.out.mono ?_
    rintro x w5 ⟨rfl, TT⟩
    have HT := Lib.hid (TT.take_ u0 (n := n - a) ⟨j0, j1⟩ (v := Z) (s' := s1) (by rw [HK.out.2.1]; exact HK.out.2.2.2.2.1.symm) (by rw [HK.out.2.1]; exact HK.out.2.2.2.2.2.2.1))
    clear TT
    go_wp2_with fail
    refine HT.out.mono ?_
    rintro x w6 ⟨rfl, TT⟩
    have HT := Lib.hid (show LzTo (w.alloc (rtO m e b)).heap.size (w.alloc (rtO m e b)) w6 k j s1 0 by unfold LzTo; rw [S.pass_none HK.out.2.2.2.2.2.2.2.1 (by have := HK.out.2.2.2.2.2.2.2.2; omega)]; exact TT.swap)
    clear TT
    go_wp2_with fail
    go_loopw [14, 15] (fun t i wr => ∃ (q : Nat) (t0 : Int), i = .int .i64 (q : Int) ∧ t = .int .u64 t0 ∧ q ≤ l.length ∧ 0 ≤ t0 ∧ t0 ≤ (q : Int) * 1048576 ∧ LzTo (w.alloc (rtO m e b)).heap.size (w.alloc (rtO m e b)) wr k j s1 t0) (fun _ i _ => l.length - (intOf i).toNat)
    case atStart => exact ⟨0, 0, rfl, rfl, Nat.zero_le _, Int.le_refl _, by simp, HT.out⟩
    case round =>
      obtain ⟨q, t0, rfl, rfl, hq, ht0, ht1, hL⟩ := hrel
      have ut0 : U t0 := ⟨ht0, by omega⟩
      by_cases hlt : q < l.length
      · obtain ⟨bb, off, g, rfl, hbl, -, ⟨g0, g1⟩, x0⟩ := HA.out.at_ (wr := wr) hL.bel hlt
        have b0 : (0 : Int) ≤ (q : Int) := by omega
        have b1 : (q : Int) < (l.length : Int) := by omega
        have b2 : (q : Int) ≤ 60 := by omega
        have ht2 : t0 ≤ 62914560 := by omega
        have ut1 : U (t0 + g % 1048576) := ⟨by omega, by omega⟩
        have epp : (s1.pass t0).pass (t0 + g % 1048576) = s1.pass (t0 + g % 1048576) := S.pass_pass HK.out.2.2.2.2.2.2.2.1 (by have := HK.out.2.2.2.2.2.2.2.2; omega) (by omega)
        have eps : (s1.pass (t0 + g % 1048576)).pass (t0 + g % 1048576) = s1.pass (t0 + g % 1048576) := S.pass_same HK.out.2.2.2.2.2.2.2.1
        have HX := Lib.hid (And.intro (Tb.hav_ hL ut1 (s' := s1.pass (t0 + g % 1048576)) epp rfl) eps)
        have ht3 : t0 + g % 1048576 ≤ ((q + 1 : Nat) : Int) * 1048576 := by omega
        clear hL epp eps
        go_wp2_with fail
        refine HX.out.1.mono ?_
        rintro x w7 ⟨rfl, TT⟩
        have HX := Lib.hid (TT.whe_ ut1 (n := 1) ⟨by omega, by omega⟩ (s' := s1.pass (t0 + g % 1048576)) HX.out.2 rfl)
        clear TT
        go_wp2_with fail
        refine HX.out.mono ?_
        rintro x w8 ⟨rfl, TT⟩
        have HX := Lib.hid TT
        clear TT
        go_wp2_with fail
        go_roundw
        case rel => exact ⟨q + 1, _, by go_num, rfl, by omega, by omega, ht3, HX.out⟩
        case measure => simp [intOf]; omega
      · obtain rfl : q = l.length := by omega
        have b1 : ¬ ((l.length : Int) < (l.length : Int)) := by omega
        have eps : (s1.pass t0).pass t0 = s1.pass t0 := S.pass_same HK.out.2.2.2.2.2.2.2.1
        have HX := Lib.hid (Tb.hav_ hL ut0 (s' := s1.pass t0) (v := (s1.pass t0).t) eps rfl)
        clear hL eps
        go_wp2_with fail
        refine HX.out.mono ?_
        rintro x w7 ⟨rfl, TT⟩
        have HX := Lib.hid (TT.swap.hav_ ut0 (s' := s1.pass t0) (v := (s1.pass t0).t) rfl rfl)
        clear TT
        go_wp2_with fail
        refine HX.out.mono ?_
        rintro x w8 ⟨rfl, TT⟩
        have HX := Lib.hid (end_of TT.bel)
        clear TT
        go_wp2_with fail
        go_ret
        exact ⟨rfl, HX.out⟩
theorem lazy_law (w : World) (hi : I n) (hA : ArgN .u32 0 4294967295 w A l) :
    Calls Try.prog 7 #[.agg #[.int .i64 m, .int .u64 e, .int .i64 b], .slice A l.length c, .int .i64 n] w fun x w' => x = .returned (.bool true) ∧ Below w.heap.size w w' := by
  by_cases h : l.length ≤ 60
  · cases hr : rateB m e b with
    | true => exact lazy_yes w h hi hr hA
    | false => exact lazy_no w h hr
  · exact lazy_long w (by omega)
end
end Go.Proofs.Ytalabakmeepboaa
