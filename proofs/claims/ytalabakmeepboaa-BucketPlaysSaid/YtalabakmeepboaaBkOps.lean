/-
  The contracts of a bucket's calls: New, Have, Take, Borrow, When, Set; and of a nil bucket.
-/
import Derived.Test.YtalabakmeepboaaBkMem
namespace Go.Proofs.Ytalabakmeepboaa
open Go.RowKit

theorem bcell {W w1 : World} (hb : Below W.heap.size W w1) {b : Nat} (h : b < W.heap.size) (o : Nat) : w1.cell? ⟨b, o, none⟩ = W.cell? ⟨b, o, none⟩ := hb.cell (p := ⟨b, o, none⟩) h
/-- A rate in a block of its own. -/
def RtC (w : World) (g : Nat) (m e b : Int) : Prop := w.cell? ⟨g, 0, none⟩ = some (.int .i64 m) ∧ w.cell? ⟨g, 1, none⟩ = some (.int .u64 e) ∧ w.cell? ⟨g, 2, none⟩ = some (.int .i64 b) ∧ g < w.heap.size
theorem rtc_new (w : World) (m e b : Int) : RtC (w.alloc (.cells #[.int .i64 m, .int .u64 e, .int .i64 b] 24)) w.heap.size m e b :=
  have h := Blk.new w 24 #[.int .i64 m, .int .u64 e, .int .i64 b]
  ⟨h.cell 0, h.cell 1, h.cell 2, h.lt⟩
theorem RtC.below {w w' : World} {g : Nat} {m e b : Int} (h : RtC w g m e b) (hb : Below w.heap.size w w') : RtC w' g m e b :=
  ⟨(bcell hb h.2.2.2 0).trans h.1, (bcell hb h.2.2.2 1).trans h.2.1, (bcell hb h.2.2.2 2).trans h.2.2.1, Nat.lt_of_lt_of_le h.2.2.2 hb.size⟩

def NewAt (w : World) (s : S) (x : Ending) (w' : World) : Prop := ∃ k, x = .returned (.tuple #[.pointer (some ⟨k, 0, none⟩), .int .i64 0]) ∧ Bk w' k s ∧ w.heap.size ≤ k ∧ Below w.heap.size w w'
theorem new_yes {m e b now : Int} (w : World) (h : rateB m e b = true) (hn : U now) :
    Calls Try.prog 10 #[.agg #[.int .i64 m, .int .u64 e, .int .i64 b], .int .u64 now] w (NewAt w (S.fresh m e b now)) := by
  have HC := Lib.hid (fun w => check_yes w h)
  have HO := Lib.hid (S.Ok.fresh h hn)
  have HR := Lib.hid (rtc_new w m e b)
  have g0 := (rtc_new w m e b).1
  have g1 := (rtc_new w m e b).2.1
  have g2 := (rtc_new w m e b).2.2.1
  clear h hn
  go_enter Try.func10, Try.ntmps10
  go_wp2_with fail
  refine (HC.out _).mono ?_
  rintro e1 w1 ⟨rfl, hb⟩
  obtain ⟨d0, d1, d2, -⟩ := HR.out.below hb
  have hz : w.heap.size + 1 ≤ w1.heap.size := by have := hb.size; simpa using this
  have HB := Lib.hid (((Below.refl _ w).alloc (Nat.le_refl _) _).trans (hb.mono (by simp)))
  clear hb g0 g1 g2
  go_wp2_with fail
  go_ret2
  exact ⟨_, rfl, ⟨Blk.new w1 _ _, HO.out⟩, by omega, HB.out.alloc (by omega) _⟩
theorem new_no {m e b now : Int} (w : World) (h : rateB m e b = false) :
    Calls Try.prog 10 #[.agg #[.int .i64 m, .int .u64 e, .int .i64 b], .int .u64 now] w fun x w' => x = .returned (.tuple #[.pointer none, .int .i64 80]) ∧ Below w.heap.size w w' := by
  have HC := Lib.hid (fun w => check_no w h)
  have g0 := (rtc_new w m e b).1
  have g1 := (rtc_new w m e b).2.1
  have g2 := (rtc_new w m e b).2.2.1
  clear h
  go_enter Try.func10, Try.ntmps10
  go_wp2_with fail
  refine (HC.out _).mono ?_
  rintro e1 w1 ⟨rfl, hb⟩
  have HB := Lib.hid (((Below.refl _ w).alloc (Nat.le_refl _) _).trans (hb.mono (by simp)))
  clear hb g0 g1 g2
  go_wp2_with fail
  go_ret2
  exact ⟨rfl, HB.out⟩

theorem Psd.trans {w w1 w2 : World} {k : Nat} {s s1 : S} (h : Kept (fun i => i = k) w w1) (q : Psd w1 k s w2) : Psd w k s w2 := ⟨q.1, h.trans q.2⟩
/-- Behind made and pass. -/
theorem psd_below {w w1 w2 : World} {k : Nat} {s : S} (hb : Below w.heap.size w w1) (q : Psd w1 k s w2) : Psd w k s w2 := ⟨q.1, (Kept.of_below hb).trans q.2⟩

section
variable {w : World} {k : Nat} {s : S} {now n : Int}
theorem have_any (H : Bk w k s) (hn : U now) :
    Calls Try.prog 21 #[.pointer (some ⟨k, 0, none⟩), .int .u64 now] w fun x w' => x = .returned (.int .i64 (s.pass now).t) ∧ Psd w k (s.pass now) w' := by
  have HM := Lib.hid (made_yes H)
  have HP := Lib.hid (fun (w1 : World) (hb : Below w.heap.size w w1) => pass_any (H.below hb) hn)
  clear H hn
  go_enter Try.func21, Try.ntmps21
  go_wp2_with fail
  refine HM.out.mono ?_
  rintro e w1 ⟨rfl, hb⟩
  have HP1 := Lib.hid (And.intro (HP.out w1 hb) hb)
  clear hb
  go_wp2_with fail
  refine HP1.out.1.mono ?_
  rintro e w2 ⟨rfl, hp⟩
  obtain ⟨c0, c1, c2, c3, c4, c5⟩ := hp.1.cells
  have hk := hp.1.lt
  have H2 := Lib.hid (psd_below HP1.out.2 hp)
  clear hp c0 c1 c2 c3 c5
  go_wp2_with fail
  go_ret
  exact ⟨rfl, H2.out⟩
theorem take_any (H : Bk w k s) (hn : U now) (hi : I n) :
    Calls Try.prog 12 #[.pointer (some ⟨k, 0, none⟩), .int .u64 now, .int .i64 n] w fun x w' => x = .returned (.int .i64 (takeN (s.pass now) n)) ∧ Psd w k ((s.pass now).less (takeN (s.pass now) n)) w' := by
  have HP := Lib.hid (have_any H hn)
  have hok := H.ok.pass hn
  have HO := Lib.hid (hok.take (n := n))
  have ht1 := hok.t1
  have htb := hok.tb
  have hb1 := hok.b1
  obtain ⟨i0, i1⟩ := hi
  have HT := Lib.hid (show takeN (s.pass now) n = if min n (s.pass now).t < 1 then 0 else min n (s.pass now).t from rfl)
  obtain ⟨u, hu⟩ : ∃ u, u = s.pass now := ⟨_, rfl⟩
  rw [← hu] at HP HO HT ht1 htb hb1 ⊢
  clear H hok hn hu
  by_cases hnt : u.t < n
  · by_cases h1 : u.t < 1
    · have HE := Lib.hid (show takeN u n = 0 by rw [HT.out, if_pos (by omega)])
      go_enter Try.func12, Try.ntmps12
      go_wp2_with fail
      refine HP.out.mono ?_
      rintro e w1 ⟨rfl, hp⟩
      have H2 := Lib.hid hp
      clear hp
      go_wp2_with fail
      go_ret
      rw [HE.out]
      exact ⟨rfl, by have := H2.out; unfold S.less; simpa using this⟩
    · have HE := Lib.hid (show takeN u n = u.t by rw [HT.out, if_neg (by omega)]; omega)
      go_enter Try.func12, Try.ntmps12
      go_wp2_with fail
      refine HP.out.mono ?_
      rintro e w1 ⟨rfl, hp⟩
      obtain ⟨c0, c1, c2, c3, c4, c5⟩ := hp.1.cells
      have hk := hp.1.lt
      have f4 := hp.1.blk.frozen 4
      have H2 := Lib.hid hp
      clear hp c0 c1 c2 c3 c5
      go_wp2_with fail
      go_ret
      have HO := HO.out
      rw [HE.out] at HO ⊢
      obtain ⟨h1, h2⟩ := H2.out
      exact ⟨rfl, by have := h1.setT _ HO; simpa [S.setT, S.less] using this, h2.setCell (p := ⟨k, 4, none⟩) rfl _⟩
  · by_cases h1 : n < 1
    · have HE := Lib.hid (show takeN u n = 0 by rw [HT.out, if_pos (by omega)])
      go_enter Try.func12, Try.ntmps12
      go_wp2_with fail
      refine HP.out.mono ?_
      rintro e w1 ⟨rfl, hp⟩
      have H2 := Lib.hid hp
      clear hp
      go_wp2_with fail
      go_ret
      rw [HE.out]
      exact ⟨rfl, by have := H2.out; unfold S.less; simpa using this⟩
    · have HE := Lib.hid (show takeN u n = n by rw [HT.out, if_neg (by omega)]; omega)
      go_enter Try.func12, Try.ntmps12
      go_wp2_with fail
      refine HP.out.mono ?_
      rintro e w1 ⟨rfl, hp⟩
      obtain ⟨c0, c1, c2, c3, c4, c5⟩ := hp.1.cells
      have hk := hp.1.lt
      have f4 := hp.1.blk.frozen 4
      have H2 := Lib.hid hp
      clear hp c0 c1 c2 c3 c5
      go_wp2_with fail
      go_ret
      have HO := HO.out
      rw [HE.out] at HO ⊢
      obtain ⟨h1, h2⟩ := H2.out
      exact ⟨rfl, by have := h1.setT _ HO; simpa [S.setT, S.less] using this, h2.setCell (p := ⟨k, 4, none⟩) rfl _⟩
/-- A call that has passed the tick. -/
theorem passed (H : Bk w k s) (hn : U now) : Hid (∀ w1, Below w.heap.size w w1 → Calls Try.prog 26 #[.pointer (some ⟨k, 0, none⟩), .int .u64 now] w1 fun x w' => x = .returned (.tuple #[]) ∧ Psd w k (s.pass now) w') :=
  Lib.hid fun w1 hb => (pass_any (H.below hb) hn).mono fun _ _ ⟨e, h⟩ => ⟨e, psd_below hb h⟩
theorem bor_any (H : Bk w k s) (hn : U now) (hi : I n) :
    Calls Try.prog 14 #[.pointer (some ⟨k, 0, none⟩), .int .u64 now, .int .i64 n] w fun x w' => x = .returned (.int .i64 (borN (s.pass now) n)) ∧ Psd w k (borS (s.pass now) n) w' := by
  have HM := Lib.hid (made_yes H)
  have HP := passed H hn
  have hok := H.ok.pass hn
  have HO := Lib.hid (hok.bor (n := n))
  have ht1 := hok.t1
  have htb := hok.tb
  have hb1 := hok.b1
  obtain ⟨i0, i1⟩ := hi
  have HB := Lib.hid (@borB_yes (s.pass now) n)
  unfold borN
  unfold borS at HO ⊢
  obtain ⟨u, hu⟩ : ∃ u, u = s.pass now := ⟨_, rfl⟩
  rw [← hu] at HP HO HB ht1 htb hb1 ⊢
  clear H hok hn hu
  cases hbb : borB u n with
  | true =>
    obtain ⟨a0, a1, a2⟩ := HB.out.1 hbb
    rw [hbb] at HO
    clear hbb
    go_enter Try.func14, Try.ntmps14
    go_wp2_with fail
    refine HM.out.mono ?_
    rintro e w1 ⟨rfl, hb⟩
    have HP1 := Lib.hid (HP.out w1 hb)
    clear hb
    go_wp2_with fail
    refine HP1.out.mono ?_
    rintro e w2 ⟨rfl, hp⟩
    obtain ⟨c0, c1, c2, c3, c4, c5⟩ := hp.1.cells
    have hk := hp.1.lt
    have f4 := hp.1.blk.frozen 4
    have H2 := Lib.hid hp
    clear hp c0 c1 c2 c3 c5
    go_wp2_with fail
    go_ret
    obtain ⟨h1, h2⟩ := H2.out
    exact ⟨rfl, by have := h1.setT _ HO.out; simpa [S.setT, S.less] using this, h2.setCell (p := ⟨k, 4, none⟩) rfl _⟩
  | false =>
    have hno : n < 0 ∨ 2147483647 < n ∨ u.t - n < -2147483647 := by
      have := (not_congr HB.out).1 (by rw [hbb]; simp)
      omega
    clear hbb
    by_cases h0 : n < 0
    · clear hno
      go_enter Try.func14, Try.ntmps14
      go_wp2_with fail
      refine HM.out.mono ?_
      rintro e w1 ⟨rfl, hb⟩
      have HP1 := Lib.hid (HP.out w1 hb)
      clear hb
      go_wp2_with fail
      refine HP1.out.mono ?_
      rintro e w2 ⟨rfl, hp⟩
      have H2 := Lib.hid hp
      clear hp
      go_wp2_with fail
      go_ret
      exact ⟨rfl, H2.out⟩
    by_cases h1 : 2147483647 < n
    · clear hno
      go_enter Try.func14, Try.ntmps14
      go_wp2_with fail
      refine HM.out.mono ?_
      rintro e w1 ⟨rfl, hb⟩
      have HP1 := Lib.hid (HP.out w1 hb)
      clear hb
      go_wp2_with fail
      refine HP1.out.mono ?_
      rintro e w2 ⟨rfl, hp⟩
      have H2 := Lib.hid hp
      clear hp
      go_wp2_with fail
      go_ret
      exact ⟨rfl, H2.out⟩
    · have h2 : u.t - n < -2147483647 := by omega
      have h3 : 0 ≤ n := by omega
      have h4 : n ≤ 2147483647 := by omega
      clear hno
      go_enter Try.func14, Try.ntmps14
      go_wp2_with fail
      refine HM.out.mono ?_
      rintro e w1 ⟨rfl, hb⟩
      have HP1 := Lib.hid (HP.out w1 hb)
      clear hb
      go_wp2_with fail
      refine HP1.out.mono ?_
      rintro e w2 ⟨rfl, hp⟩
      obtain ⟨c0, c1, c2, c3, c4, c5⟩ := hp.1.cells
      have hk := hp.1.lt
      have H2 := Lib.hid hp
      clear hp c0 c1 c2 c3 c5
      go_wp2_with fail
      go_ret
      exact ⟨rfl, H2.out⟩

theorem Psd.drewN {w1 : World} {s1 : S} (h : Psd w k s1 w1) (n : Nat) : Psd w k s1 (w1.drewN n) := ⟨h.1.drewN n, h.2.drewN n⟩
theorem when_any (H : Bk w k s) (hn : U now) (hi : I n) :
    Calls Try.prog 16 #[.pointer (some ⟨k, 0, none⟩), .int .u64 now, .int .i64 n] w fun x w' => x = .returned (.int .u64 (whenN (s.pass now) now n)) ∧ Psd w k (s.pass now) w' := by
  have HM := Lib.hid (made_yes H)
  have HP := passed H hn
  have hok := H.ok.pass hn
  obtain ⟨i0, i1⟩ := hi
  unfold whenN
  obtain ⟨u, hu⟩ : ∃ u, u = s.pass now := ⟨_, rfl⟩
  rw [← hu] at HP hok ⊢
  clear H hu
  by_cases h0 : u.b < n
  · rw [if_pos h0]
    clear hok
    go_enter Try.func16, Try.ntmps16
    go_wp2_with fail
    refine HM.out.mono ?_
    rintro e w1 ⟨rfl, hb⟩
    have HP1 := Lib.hid (HP.out w1 hb)
    clear hb
    go_wp2_with fail
    refine HP1.out.mono ?_
    rintro e w2 ⟨rfl, hp⟩
    obtain ⟨c0, c1, c2, c3, c4, c5⟩ := hp.1.cells
    have hk := hp.1.lt
    have H2 := Lib.hid hp
    clear hp c0 c1 c3 c4 c5
    go_wp2_with fail
    go_ret
    exact ⟨rfl, H2.out⟩
  rw [if_neg h0]
  have h0' : n ≤ u.b := by omega
  clear h0
  by_cases h1 : n ≤ u.t
  · rw [if_pos h1]
    clear hok
    go_enter Try.func16, Try.ntmps16
    go_wp2_with fail
    refine HM.out.mono ?_
    rintro e w1 ⟨rfl, hb⟩
    have HP1 := Lib.hid (HP.out w1 hb)
    clear hb
    go_wp2_with fail
    refine HP1.out.mono ?_
    rintro e w2 ⟨rfl, hp⟩
    obtain ⟨c0, c1, c2, c3, c4, c5⟩ := hp.1.cells
    have hk := hp.1.lt
    have H2 := Lib.hid hp
    clear hp c0 c1 c3 c5
    go_wp2_with fail
    go_ret
    exact ⟨rfl, H2.out⟩
  rw [if_neg h1]
  have h1' : u.t < n := by omega
  clear h1
  have hm1 := hok.m1
  have ht1 := hok.t1
  have hn1 : n ≤ 2147483647 := by have := hok.b1; omega
  have hc0 := cnt_nn (t := u.t) (n := n) hm1
  have hc1 := cnt_up (t := u.t) (n := n) hm1 (by omega)
  have HX := Lib.hid (fun (w : World) (x y : Nat) (hx : w.cell? ⟨x, 0, none⟩ = some (.int .i64 u.t)) (hy : w.cell? ⟨y, 0, none⟩ = some (.int .i64 u.m)) => miss1_any (n := n) hx hy hm1 ht1 hn1)
  obtain ⟨r, hr⟩ : ∃ r, r = cnt u.m u.t n := ⟨_, rfl⟩
  rw [← hr] at HX hc0 hc1 ⊢
  clear hok hr hm1 ht1 hn1
  go_enter Try.func16, Try.ntmps16
  go_wp2_with fail
  refine HM.out.mono ?_
  rintro e w1 ⟨rfl, hb⟩
  have HP1 := Lib.hid (HP.out w1 hb)
  clear hb
  go_wp2_with fail
  refine HP1.out.mono ?_
  rintro e w2 ⟨rfl, hp⟩
  obtain ⟨c0, c1, c2, c3, c4, c5⟩ := hp.1.cells
  have hk := hp.1.lt
  have HS := Lib.hid (miss_any hp.1)
  have H2 := Lib.hid hp
  clear hp c0 c1 c3 c5
  go_wp2_with fail
  refine HS.out.mono ?_
  rintro e w3 ⟨v, rfl, ⟨x, y, rfl, hx, hy⟩, hb⟩
  have HN := Lib.hid (HX.out w3 x y hx hy)
  have HEn := Lib.hid (end_any (H2.out.1.below hb) hc0 hc1)
  have H3 := Lib.hid (show Psd w k u w3 from ⟨H2.out.1.below hb, H2.out.2.trans (Kept.of_below hb)⟩)
  clear hx hy hb c2 c4
  go_wp2_with fail
  refine HN.out.mono ?_
  rintro e w4 ⟨rfl, rfl⟩
  go_wp2_with fail
  refine HEn.out.mono ?_
  rintro e w5 ⟨rfl, q, rfl⟩
  go_wp2_with fail
  go_ret
  exact ⟨rfl, H3.out.drewN q⟩

theorem set_yes {m e b : Int} (H : Bk w k s) (hn : U now) (hr : rateB m e b = true) :
    Calls Try.prog 18 #[.pointer (some ⟨k, 0, none⟩), .int .u64 now, .agg #[.int .i64 m, .int .u64 e, .int .i64 b]] w fun x w' => x = .returned (.int .i64 0) ∧ Psd w k ((s.pass now).set m e b) w' := by
  have HM := Lib.hid (made_yes (H.alloc (.cells #[.int .i64 m, .int .u64 e, .int .i64 b] 24)))
  have HC := Lib.hid (fun w => check_yes w hr)
  have HP := passed (H.alloc (.cells #[.int .i64 m, .int .u64 e, .int .i64 b] 24)) hn
  have HO := Lib.hid ((H.ok.pass hn).set hr)
  have HR := Lib.hid (rtc_new w m e b)
  have hkw := H.lt
  obtain ⟨u, hu⟩ : ∃ u, u = s.pass now := ⟨_, rfl⟩
  rw [← hu] at HP HO ⊢
  clear H hr hn hu
  go_enter Try.func18, Try.ntmps18
  go_wp2_with fail
  refine HM.out.mono ?_
  rintro x1 w1 ⟨rfl, hb1⟩
  have HR1 := Lib.hid (And.intro (HR.out.below hb1) hb1)
  obtain ⟨d0, d1, d2, -⟩ := HR.out.below hb1
  clear hb1
  go_wp2_with fail
  refine (HC.out _).mono ?_
  rintro x2 w2 ⟨rfl, hb2⟩
  have hb := HR1.out.2.trans (hb2.mono HR1.out.2.size)
  have HR2 := Lib.hid (HR.out.below hb)
  have HP2 := Lib.hid (HP.out w2 hb)
  clear hb2 hb d0 d1 d2
  go_wp2_with fail
  refine HP2.out.mono ?_
  rintro x3 w3 ⟨rfl, hp⟩
  have hne : w.heap.size ≠ k := by omega
  have hcl : ∀ o, w3.cell? ⟨w.heap.size, o, none⟩ = (w.alloc (.cells #[.int .i64 m, .int .u64 e, .int .i64 b] 24)).cell? ⟨w.heap.size, o, none⟩ := fun o => World.cell?_of_block (hp.2.block _ (by simp) hne)
  have d0 : w3.cell? ⟨w.heap.size, 0, none⟩ = some (.int .i64 m) := (hcl 0).trans HR.out.1
  have d1 : w3.cell? ⟨w.heap.size, 1, none⟩ = some (.int .u64 e) := (hcl 1).trans HR.out.2.1
  have d2 : w3.cell? ⟨w.heap.size, 2, none⟩ = some (.int .i64 b) := (hcl 2).trans HR.out.2.2.1
  obtain ⟨c0, c1, c2, c3, c4, c5⟩ := hp.1.cells
  have hk := hp.1.lt
  have f0 := hp.1.blk.frozen 0
  have f1 := hp.1.blk.frozen 1
  have f2 := hp.1.blk.frozen 2
  have f4 := hp.1.blk.frozen 4
  have H3 := Lib.hid hp
  have b4 : Blk (((w3.setCell ⟨k, 0, none⟩ (.int .i64 m)).setCell ⟨k, 1, none⟩ (.int .u64 e)).setCell ⟨k, 2, none⟩ (.int .i64 b)) k 57 #[.int .i64 m, .int .u64 e, .int .i64 b, .bool true, .int .i64 u.t, .int .u64 u.c] := by
    have := ((hp.1.blk.set_ 0 (.int .i64 m)).set_ 1 (.int .u64 e)).set_ 2 (.int .i64 b)
    simp at this
    exact this
  have k4 : Kept (fun i => i = k) w (((w3.setCell ⟨k, 0, none⟩ (.int .i64 m)).setCell ⟨k, 1, none⟩ (.int .u64 e)).setCell ⟨k, 2, none⟩ (.int .i64 b)) :=
    (((((Kept.refl _ w).alloc _).trans hp.2).setCell (p := ⟨k, 0, none⟩) rfl _).setCell (p := ⟨k, 1, none⟩) rfl _).setCell (p := ⟨k, 2, none⟩) rfl _
  have H4 := Lib.hid (And.intro b4 k4)
  clear hp hcl b4 k4
  go_wp2_with fail
  obtain ⟨w4, hw4⟩ : ∃ v, v = ((w3.setCell ⟨k, 0, none⟩ (.int .i64 m)).setCell ⟨k, 1, none⟩ (.int .u64 e)).setCell ⟨k, 2, none⟩ (.int .i64 b) := ⟨_, rfl⟩
  rw [← hw4] at H4 ⊢
  clear hw4 f0 f1 f2 f4 c0 c1 c2 c3 c4 c5 hk d0 d1 d2
  have e2 : w4.cell? ⟨k, 2, none⟩ = some (.int .i64 b) := H4.out.1.cell 2
  have e4 : w4.cell? ⟨k, 4, none⟩ = some (.int .i64 u.t) := H4.out.1.cell 4
  have g4 := H4.out.1.frozen 4
  have hk4 := H4.out.1.lt
  by_cases hm : b < u.t
  · go_still_tail 13, (by kernel_rfl)
    change wpList _ _ _ _ _ w4.drew
    go_wp2_with fail
    go_ret
    have e : min u.t b = b := by omega
    refine ⟨rfl, ⟨?_, HO.out⟩, H4.out.2.drew.setCell (p := ⟨k, 4, none⟩) rfl _⟩
    have := Blk.set_ (w := w4.drew) H4.out.1 4 (.int .i64 b)
    unfold S.set
    rw [e]
    simp at this
    exact this
  · go_still_tail 13, (by kernel_rfl)
    change wpList _ _ _ _ _ w4.drew
    go_wp2_with fail
    go_ret
    have e : min u.t b = u.t := by omega
    refine ⟨rfl, ⟨?_, HO.out⟩, H4.out.2.drew.setCell (p := ⟨k, 4, none⟩) rfl _⟩
    have := Blk.set_ (w := w4.drew) H4.out.1 4 (.int .i64 u.t)
    unfold S.set
    rw [e]
    simp at this
    exact this
theorem set_no {m e b : Int} (H : Bk w k s) (hr : rateB m e b = false) :
    Calls Try.prog 18 #[.pointer (some ⟨k, 0, none⟩), .int .u64 now, .agg #[.int .i64 m, .int .u64 e, .int .i64 b]] w fun x w' => x = .returned (.int .i64 80) ∧ Psd w k s w' := by
  have HM := Lib.hid (made_yes (H.alloc (.cells #[.int .i64 m, .int .u64 e, .int .i64 b] 24)))
  have HC := Lib.hid (fun w => check_no w hr)
  have HB := Lib.hid H
  have HR := Lib.hid (rtc_new w m e b)
  clear H hr
  go_enter Try.func18, Try.ntmps18
  go_wp2_with fail
  refine HM.out.mono ?_
  rintro x1 w1 ⟨rfl, hb1⟩
  have HR1 := Lib.hid (And.intro (HR.out.below hb1) hb1)
  obtain ⟨d0, d1, d2, -⟩ := HR.out.below hb1
  clear hb1
  go_wp2_with fail
  refine (HC.out _).mono ?_
  rintro x2 w2 ⟨rfl, hb2⟩
  have hb := HR1.out.2.trans (hb2.mono HR1.out.2.size)
  have H2 := Lib.hid (show Psd w k s w2 from ⟨(HB.out.alloc _).below hb, ((Kept.refl _ w).alloc _).trans (Kept.of_below hb)⟩)
  clear hb2 hb d0 d1 d2
  go_wp2_with fail
  go_ret
  exact ⟨rfl, H2.out⟩
def setN (m e b : Int) : Int := if rateB m e b then 0 else 80
def setS (s : S) (now m e b : Int) : S := if rateB m e b then (s.pass now).set m e b else s
theorem set_any {m e b : Int} (H : Bk w k s) (hn : U now) :
    Calls Try.prog 18 #[.pointer (some ⟨k, 0, none⟩), .int .u64 now, .agg #[.int .i64 m, .int .u64 e, .int .i64 b]] w fun x w' => x = .returned (.int .i64 (setN m e b)) ∧ Psd w k (setS s now m e b) w' := by
  unfold setN setS
  cases h : rateB m e b with
  | true => exact set_yes H hn h
  | false => exact set_no H h
end

/-- A nil bucket. -/
theorem have_nil (w : World) (now : Int) : Calls Try.prog 21 #[.pointer none, .int .u64 now] w fun x w' => x = .returned (.int .i64 0) ∧ w = w' := by
  go_enter Try.func21, Try.ntmps21
  go_wp2_with fail
  refine (made_none _).mono ?_
  rintro e w1 ⟨rfl, rfl⟩
  go_wp2_with fail
  go_ret
  exact ⟨rfl, rfl⟩
theorem take_nil (w : World) (now : Int) : Calls Try.prog 12 #[.pointer none, .int .u64 now, .int .i64 1] w fun x w' => x = .returned (.int .i64 0) ∧ w = w' := by
  go_enter Try.func12, Try.ntmps12
  go_wp2_with fail
  refine (have_nil _ _).mono ?_
  rintro e w1 ⟨rfl, rfl⟩
  go_wp2_with fail
  go_ret
  exact ⟨rfl, rfl⟩
theorem bor_nil (w : World) (now n : Int) : Calls Try.prog 14 #[.pointer none, .int .u64 now, .int .i64 n] w fun x w' => x = .returned (.int .i64 1) ∧ w = w' := by
  go_enter Try.func14, Try.ntmps14
  go_wp2_with fail
  refine (made_none _).mono ?_
  rintro e w1 ⟨rfl, rfl⟩
  go_wp2_with fail
  go_ret
  exact ⟨rfl, rfl⟩
theorem set_nil (w : World) (now m e b : Int) : Calls Try.prog 18 #[.pointer none, .int .u64 now, .agg #[.int .i64 m, .int .u64 e, .int .i64 b]] w fun x w' => x = .returned (.int .i64 1) ∧ Below w.heap.size w w' := by
  go_enter Try.func18, Try.ntmps18
  go_wp2_with fail
  refine (made_none _).mono ?_
  rintro e w1 ⟨rfl, rfl⟩
  go_wp2_with fail
  go_ret
  exact ⟨rfl, (Below.refl _ _).alloc (Nat.le_refl _) _⟩
end Go.Proofs.Ytalabakmeepboaa
