/-
  How a bucket lies in memory, and the contracts of its inner functions: Check, made, missing, end, pass.
-/
import Derived.Test.YtalabakmeepboaaCmMem
import Derived.Test.YtalabakmeepboaaBkPure
import Derived.BigRegion
namespace Go.Proofs.Ytalabakmeepboaa
open Go.RowKit

theorem ret_int {k : IntKind} {a b : Int} (h : a = b) : Ending.returned (.int k a) = .returned (.int k b) := by rw [h]
theorem ret_bool {a b : Bool} (h : a = b) : Ending.returned (.bool a) = .returned (.bool b) := by rw [h]

/-- A bucket that New made. -/
structure Bk (w : World) (k : Nat) (s : S) : Prop where
  blk : Blk w k 57 #[.int .i64 s.m, .int .u64 s.e, .int .i64 s.b, .bool true, .int .i64 s.t, .int .u64 s.c]
  ok : s.Ok
section
variable {w w' : World} {k : Nat} {s : S}
theorem Bk.lt (h : Bk w k s) : k < w.heap.size := h.blk.lt
theorem Bk.same (h : Bk w k s) (e : w'.heap[k]? = w.heap[k]?) : Bk w' k s := ⟨h.blk.same e, h.ok⟩
theorem Bk.kept {F : Nat → Prop} (h : Bk w k s) (q : Kept F w w') (hf : ¬ F k) : Bk w' k s := ⟨h.blk.kept q hf, h.ok⟩
theorem Bk.below (h : Bk w k s) (hb : Below w.heap.size w w') : Bk w' k s := h.same (hb.block k h.lt)
theorem Bk.alloc (h : Bk w k s) (o : Obj) : Bk (w.alloc o) k s := ⟨h.blk.alloc o, h.ok⟩
theorem Bk.drew (h : Bk w k s) : Bk w.drew k s := h.same rfl
theorem Bk.drewN (h : Bk w k s) (n : Nat) : Bk (w.drewN n) k s := h.same rfl
theorem Bk.cells (h : Bk w k s) : w.cell? ⟨k, 0, none⟩ = some (.int .i64 s.m) ∧ w.cell? ⟨k, 1, none⟩ = some (.int .u64 s.e) ∧ w.cell? ⟨k, 2, none⟩ = some (.int .i64 s.b) ∧ w.cell? ⟨k, 3, none⟩ = some (.bool true) ∧ w.cell? ⟨k, 4, none⟩ = some (.int .i64 s.t) ∧ w.cell? ⟨k, 5, none⟩ = some (.int .u64 s.c) :=
  ⟨(h.blk.cell 0), (h.blk.cell 1), (h.blk.cell 2), (h.blk.cell 3), (h.blk.cell 4), (h.blk.cell 5)⟩
end

/-- Check. -/
theorem check_yes {m e b : Int} (w : World) (h : rateB m e b = true) :
    Calls Try.prog 9 #[.agg #[.int .i64 m, .int .u64 e, .int .i64 b]] w fun x w' => x = .returned (.int .i64 0) ∧ Below w.heap.size w w' := by
  obtain ⟨h1, h2, h3, h4, h5⟩ := rateB_yes.1 h
  clear h
  go_enter Try.func9, Try.ntmps9
  go_wp2_with fail
  go_ret
  exact ⟨rfl, (Below.refl _ _).alloc (Nat.le_refl _) _⟩
theorem check_no {m e b : Int} (w : World) (h : rateB m e b = false) :
    Calls Try.prog 9 #[.agg #[.int .i64 m, .int .u64 e, .int .i64 b]] w fun x w' => x = .returned (.int .i64 80) ∧ Below w.heap.size w w' := by
  have h := rateB_no.1 h
  by_cases h1 : m < 1
  · clear h
    go_enter Try.func9, Try.ntmps9
    go_wp2_with fail
    go_ret
    exact ⟨rfl, (Below.refl _ _).alloc (Nat.le_refl _) _⟩
  by_cases h2 : b < m
  · clear h
    go_enter Try.func9, Try.ntmps9
    go_wp2_with fail
    go_ret
    exact ⟨rfl, (Below.refl _ _).alloc (Nat.le_refl _) _⟩
  by_cases h3 : 2147483647 < b
  · clear h
    go_enter Try.func9, Try.ntmps9
    go_wp2_with fail
    go_ret
    exact ⟨rfl, (Below.refl _ _).alloc (Nat.le_refl _) _⟩
  by_cases h4 : e < 1
  · clear h
    go_enter Try.func9, Try.ntmps9
    go_wp2_with fail
    go_ret
    exact ⟨rfl, (Below.refl _ _).alloc (Nat.le_refl _) _⟩
  have h5 : 1048576 < e := by omega
  clear h
  go_enter Try.func9, Try.ntmps9
  go_wp2_with fail
  go_ret
  exact ⟨rfl, (Below.refl _ _).alloc (Nat.le_refl _) _⟩
theorem check_any {m e b : Int} (w : World) :
    Calls Try.prog 9 #[.agg #[.int .i64 m, .int .u64 e, .int .i64 b]] w fun x w' => x = .returned (.int .i64 (rateN m e b)) ∧ Below w.heap.size w w' := by
  unfold rateN
  cases h : rateB m e b with
  | true => exact check_yes w h
  | false => exact check_no w h

theorem made_yes {w : World} {k : Nat} {s : S} (H : Bk w k s) :
    Calls Try.prog 25 #[.pointer (some ⟨k, 0, none⟩)] w fun x w' => x = .returned (.bool true) ∧ Below w.heap.size w w' := by
  obtain ⟨c0, c1, c2, c3, c4, c5⟩ := H.cells
  have HC := Lib.hid (check_yes w H.ok.rate)
  clear H c4 c5
  go_enter Try.func25, Try.ntmps25
  go_wp2_with fail
  refine HC.out.mono ?_
  rintro e w1 ⟨rfl, hb⟩
  have HB := Lib.hid hb
  clear hb
  go_wp2_with fail
  go_ret
  exact ⟨rfl, HB.out⟩
theorem made_none (w : World) :
    Calls Try.prog 25 #[.pointer none] w fun x w' => x = .returned (.bool false) ∧ w = w' := by
  go_enter Try.func25, Try.ntmps25
  go_wp2_with fail
  go_ret
  exact ⟨rfl, rfl⟩

theorem below_drewN {B : Nat} {w w' : World} (h : Below B w w') (n : Nat) : Below B w (w'.drewN n) := ⟨h.os, h.tape, h.output, h.size, h.block⟩
/-- Two new blocks of one cell. -/
theorem two_cells (w : World) (a b : Value) (t u : TypeId) : ((w.alloc (.cells #[a] t)).alloc (.cells #[b] u)).drew.cell? ⟨w.heap.size, 0, none⟩ = some a ∧ ((w.alloc (.cells #[a] t)).alloc (.cells #[b] u)).drew.cell? ⟨w.heap.size + 1, 0, none⟩ = some b := by
  constructor
  · exact ((Blk.new w t #[a]).alloc (.cells #[b] u)).cell 0
  · have := (Blk.new (w.alloc (.cells #[a] t)) u #[b]).cell 0
    simp only [World.size_alloc] at this
    exact this
theorem below_two (w : World) (a b : Obj) : Below w.heap.size w ((w.alloc a).alloc b).drew :=
  Below.drew (((Below.refl _ w).alloc (Nat.le_refl _) a).alloc (by simp) b)

/-- The count of periods, as a function value. -/
def FnAt (w : World) (m t : Int) (v : Value) : Prop := ∃ x y, v = .func (.func 30) #[] #[.pointer (some ⟨x, 0, none⟩), .pointer (some ⟨y, 0, none⟩)] ∧ w.cell? ⟨x, 0, none⟩ = some (.int .i64 t) ∧ w.cell? ⟨y, 0, none⟩ = some (.int .i64 m)
theorem miss1_any {w : World} {x y : Nat} {m t n : Int} (hx : w.cell? ⟨x, 0, none⟩ = some (.int .i64 t)) (hy : w.cell? ⟨y, 0, none⟩ = some (.int .i64 m)) (hm : 1 ≤ m) (ht : -2147483647 ≤ t) (hn : n ≤ 2147483647) :
    Calls Try.prog 30 #[.int .i64 n, .pointer (some ⟨x, 0, none⟩), .pointer (some ⟨y, 0, none⟩)] w fun e w' => e = .returned (.int .u64 (cnt m t n)) ∧ w = w' := by
  by_cases h : n ≤ t
  · have HE := Lib.hid (show cnt m t n = 0 from if_pos h)
    go_enter Try.func30, Try.ntmps30
    go_wp2_with fail
    go_ret
    exact ⟨ret_int HE.out.symm, rfl⟩
  · have HE := Lib.hid (show cnt m t n = (n - t - 1) / m + 1 from if_neg h)
    have h0 := Int.ediv_nonneg (show 0 ≤ n - t - 1 by omega) (show 0 ≤ m by omega)
    have h1 := cnt_up (t := t) (n := n) hm (by omega)
    rw [HE.out] at h1
    go_enter Try.func30, Try.ntmps30
    go_wp2_with fail
    go_ret
    exact ⟨ret_int HE.out.symm, rfl⟩
theorem miss_any {w : World} {k : Nat} {s : S} (H : Bk w k s) :
    Calls Try.prog 28 #[.pointer (some ⟨k, 0, none⟩)] w fun e w' => ∃ v, e = .returned v ∧ FnAt w' s.m s.t v ∧ Below w.heap.size w w' := by
  have hmf : ∀ (fn : Fn) (first cap : Array Value) (w : World), (Instr.makeFunc fn first cap).run Try.prog w = .ok (.func fn first cap) w := fun _ _ _ _ => rfl
  obtain ⟨c0, c1, c2, c3, c4, c5⟩ := H.cells
  have hk := H.lt
  clear H c1 c2 c3 c5
  go_enter Try.func28, Try.ntmps28
  go_wp2_with fail
  go_region
  · go_wp2_with fail
    go_ret
    exact ⟨_, rfl, ⟨_, _, rfl, (two_cells _ _ _ _ _).1, (two_cells _ _ _ _ _).2⟩, below_two _ _ _⟩
  · go_wp2_with fail
    go_ret
    exact ⟨_, rfl, ⟨_, _, rfl, (two_cells _ _ _ _ _).2, (two_cells _ _ _ _ _).1⟩, below_two _ _ _⟩

/-- The tick at which so many periods have ended. -/
theorem dl_any (now after : Int) (w : World) (h : U now) (g : U after) :
    Calls Try.prog 29 #[.int .u64 now, .int .u64 after] w fun e w' => e = .returned (.int .u64 (dlN now after)) ∧ w = w' := by
  obtain ⟨h0, h1⟩ := h
  obtain ⟨g0, g1⟩ := g
  by_cases hc : 18446744073709551615 - now < after
  · go_enter Try.func29, Try.ntmps29
    go_wp2_with fail
    go_ret
    exact ⟨ret_int (by unfold dlN; rw [if_pos hc]), rfl⟩
  · go_enter Try.func29, Try.ntmps29
    go_wp2_with fail
    go_ret
    exact ⟨ret_int (by unfold dlN; rw [if_neg (by omega)]), rfl⟩
theorem end_any {w : World} {k : Nat} {s : S} {p : Int} (H : Bk w k s) (h0 : 0 ≤ p) (h1 : p ≤ 4294967294) :
    Calls Try.prog 27 #[.pointer (some ⟨k, 0, none⟩), .int .u64 p] w fun e w' => e = .returned (.int .u64 (dlN s.c (p * s.e))) ∧ ∃ n, w' = w.drewN n := by
  obtain ⟨c0, c1, c2, c3, c4, c5⟩ := H.cells
  have m0 : 0 ≤ p * s.e := mul_nn h0 H.ok.e1
  have m1 : p * s.e ≤ 4294967294 * 1048576 := mul_up h0 (by have := H.ok.e1; omega) h1 H.ok.e2
  have hc := H.ok.c0
  have hc1 := H.ok.c1
  have hwr : IntKind.u64.wrap (p * s.e) = p * s.e := by rw [IntKind.wrap_u64]; omega
  have HD := Lib.hid (fun w => dl_any s.c (p * s.e) w ⟨hc, hc1⟩ ⟨m0, by omega⟩)
  clear H c0 c2 c3 c4
  go_enter Try.func27, Try.ntmps27
  go_wp2_with fail
  go_quiet ((go_at_call 29; exact Calls.quiet_of_same ((HD.out _).mono fun _ _ ⟨he, hw⟩ => ⟨he, hw.symm⟩)))
  go_wp2_with fail
  go_ret
  exact ⟨rfl, _, rfl⟩

/-- What a call that passes a tick does to memory. -/
def Psd (w : World) (k : Nat) (s : S) (w' : World) : Prop := Bk w' k s ∧ Kept (fun i => i = k) w w'
def S.setC (s : S) (c : Int) : S := { s with c := c }
def S.setT (s : S) (t : Int) : S := { s with t := t }
theorem Bk.setC {w : World} {k : Nat} {s : S} (h : Bk w k s) (c : Int) (hs : (s.setC c).Ok) : Bk (w.setCell ⟨k, 5, none⟩ (.int .u64 c)) k (s.setC c) :=
  ⟨by have := h.blk.set_ 5 (.int .u64 c); simp at this; exact this, hs⟩
theorem Bk.setT {w : World} {k : Nat} {s : S} (h : Bk w k s) (t : Int) (hs : (s.setT t).Ok) : Bk (w.setCell ⟨k, 4, none⟩ (.int .i64 t)) k (s.setT t) :=
  ⟨by have := h.blk.set_ 4 (.int .i64 t); simp at this; exact this, hs⟩
theorem S.pass_eq (s : S) (now : Int) : s.pass now = (s.setC (s.c + per s.e s.c now * s.e)).setT (min s.b (s.t + per s.e s.c now * s.m)) := rfl
theorem S.Ok.setC {s : S} (h : s.Ok) {c : Int} (h0 : 0 ≤ c) (h1 : c ≤ 18446744073709551615) : (s.setC c).Ok := ⟨h.m1, h.mb, h.b1, h.e1, h.e2, h.t1, h.tb, h0, h1⟩
theorem S.Ok.setT {s : S} (h : s.Ok) {t : Int} (h0 : -2147483647 ≤ t) (h1 : t ≤ s.b) : (s.setT t).Ok := ⟨h.m1, h.mb, h.b1, h.e1, h.e2, h0, h1, h.c0, h.c1⟩
theorem pass_any {w : World} {k : Nat} {s : S} {now : Int} (H : Bk w k s) (hn : U now) :
    Calls Try.prog 26 #[.pointer (some ⟨k, 0, none⟩), .int .u64 now] w fun e w' => e = .returned (.tuple #[]) ∧ Psd w k (s.pass now) w' := by
  obtain ⟨c0, c1, c2, c3, c4, c5⟩ := H.cells
  have hk := H.lt
  have hok := H.ok
  have z0 := hok.c0
  have z1 := hok.c1
  obtain ⟨n0, n1⟩ := hn
  by_cases hc : now ≤ s.c
  · have HE := Lib.hid (And.intro (S.pass_none hok hc) H)
    clear H c0 c1 c2 c3 c4 hok
    go_enter Try.func26, Try.ntmps26
    go_wp2_with fail
    refine bodyPost_ret (results_none rfl _ _ _) rfl ⟨rfl, ?_⟩
    rw [HE.out.1]
    exact ⟨HE.out.2, Kept.refl _ _⟩
  · have hlt : s.c < now := by omega
    have hep := per_pos (e := s.e) hlt
    have hpn := per_nn (e := s.e) (c := s.c) (now := now) hok.e1
    have hlo := per_lo (e := s.e) (c := s.c) (now := now) hok.e1 (by omega)
    have hpe := mul_nn hpn hok.e1
    have hge := mul_ge hpn hok.e1
    have hpm := mul_nn hpn hok.m1
    have he1 := hok.e1
    obtain ⟨p, hp⟩ : ∃ p, p = per s.e s.c now := ⟨_, rfl⟩
    rw [← hp] at hep hpn hlo hpe hge hpm
    obtain ⟨q, hq⟩ : ∃ q, q = p * s.e := ⟨_, rfl⟩
    rw [← hq] at hlo hpe hge
    have hsub : IntKind.u64.wrap (now - s.c) = now - s.c := by rw [IntKind.wrap_u64]; omega
    have hmul : IntKind.u64.wrap (p * s.e) = q := by rw [← hq, IntKind.wrap_u64]; omega
    have hadd : IntKind.u64.wrap (s.c + q) = s.c + q := by rw [IntKind.wrap_u64]; omega
    have HH := Lib.hid (And.intro H (And.intro hok (And.intro hp (And.intro hq hep))))
    clear H hok hp hq hep
    go_enter Try.func26, Try.ntmps26
    go_wp2_with fail
    go_quiet (fail)
    go_wp2_with fail
    have hx : (now - s.c) / s.e = p := HH.out.2.2.2.2.symm
    simp only [hx]
    clear hx
    have H5 : Bk (w.drewN nq) k s := HH.out.1.drewN nq
    have k5 : Kept (fun i => i = k) w (w.drewN nq) := (Kept.refl _ w).drewN nq
    obtain ⟨w5, hw5⟩ : ∃ v, v = w.drewN nq := ⟨_, rfl⟩
    rw [← hw5] at H5 k5 ⊢
    obtain ⟨d0, d1, d2, d3, d4, d5⟩ := H5.cells
    have hk5 := H5.lt
    have f5 := H5.blk.frozen 5
    have H6 := H5.drew.setC (s.c + q) (HH.out.2.1.setC (by omega) (by omega))
    have k6 : Kept (fun i => i = k) w (w5.drew.setCell ⟨k, 5, none⟩ (.int .u64 (s.c + q))) := k5.drew.setCell (p := ⟨k, 5, none⟩) rfl _
    have HM := Lib.hid (And.intro (miss_any H6) (And.intro H6 k6))
    clear c0 c1 c2 c3 c4 c5 hw5 H5 H6 k5 k6 hk d0 d2 d3 d4 hsub
    go_still_tail 14, (by kernel_rfl)
    change wpList _ _ _ _ _ w5.drew
    go_wp2_with fail
    refine HM.out.1.mono ?_
    rintro e w7 ⟨v, rfl, ⟨x, y, rfl, hx, hy⟩, hb⟩
    obtain ⟨-, H6, k6⟩ := HM.out
    have H7 := H6.below hb
    have k7 := k6.trans (Kept.of_below hb)
    obtain ⟨d0, d1, d2, d3, d4, d5⟩ := H7.cells
    have hk7 := H7.lt
    have f4 := H7.blk.frozen 4
    change w7.cell? _ = some (.int .i64 s.m) at hy d0
    change w7.cell? _ = some (.int .i64 s.t) at hx d4
    change w7.cell? _ = some (.int .i64 s.b) at d2
    have hok := HH.out.2.1
    have HN := Lib.hid (miss1_any (n := s.b) hx hy hok.m1 hok.t1 hok.b1)
    have hr0 := cnt_nn (m := s.m) (t := s.t) (n := s.b) hok.m1
    have hr1 := cnt_up (m := s.m) (t := s.t) (n := s.b) hok.m1 (by have := hok.t1; have := hok.b1; omega)
    have hfull := pass_full (m := s.m) (b := s.b) (t := s.t) hok.m1 hpn
    have hpart := pass_part (m := s.m) (b := s.b) (t := s.t) hok.m1 hpn
    obtain ⟨r, hr⟩ : ∃ r, r = cnt s.m s.t s.b := ⟨_, rfl⟩
    rw [← hr] at HN hr0 hr1 hfull hpart
    have ht1 := hok.t1
    have htb := hok.tb
    have hb1 := hok.b1
    have H8 := Lib.hid (And.intro H7 k7)
    have hpq := HH.out.2.2.1
    have hqq := HH.out.2.2.2.1
    by_cases hcr : r ≤ p
    · have HE := Lib.hid (show s.pass now = (s.setC (s.c + q)).setT s.b by rw [S.pass_eq, ← hpq, ← hqq, hfull hcr])
      clear HM H6 k6 hb H7 k7 hx hy hok hr hfull hpart d1 d3 d5 hmul hadd hpq hqq d0 hpm hge hlo
      go_wp2_with fail
      refine HN.out.mono ?_
      rintro e w8 ⟨rfl, rfl⟩
      go_wp2_with fail
      refine bodyPost_ret (results_none rfl _ _ _) rfl ⟨rfl, ?_⟩
      rw [HE.out]
      obtain ⟨H7, k7⟩ := H8.out
      exact ⟨H7.setT s.b (H7.ok.setT (by omega) (Int.le_refl _)), k7.setCell (p := ⟨k, 4, none⟩) rfl _⟩
    · have hsm := hpart (by omega)
      obtain ⟨z, hz⟩ : ∃ z, z = p * s.m := ⟨_, rfl⟩
      rw [← hz] at hsm hpm
      have hzm : IntKind.i64.wrap (p * s.m) = z := by rw [← hz, IntKind.wrap_i64]; omega
      have hza : IntKind.i64.wrap (s.t + z) = s.t + z := by rw [IntKind.wrap_i64]; omega
      have hzp : IntKind.i64.wrap p = p := by rw [IntKind.wrap_i64]; omega
      have HE := Lib.hid (And.intro (show s.pass now = (s.setC (s.c + q)).setT (s.t + z) by rw [S.pass_eq, ← hpq, ← hqq, ← hz, hsm]) hsm)
      clear HM H6 k6 hb H7 k7 hx hy hok hr hfull hpart d1 d3 d5 hmul hadd hpq hqq hz hsm hge hlo
      go_wp2_with fail
      refine HN.out.mono ?_
      rintro e w8 ⟨rfl, rfl⟩
      go_wp2_with fail
      go_still_tail 15, (by kernel_rfl)
      change wpList _ _ _ _ _ w7.drew
      go_wp2_with fail
      go_end0
      refine ⟨rfl, ?_⟩
      rw [HE.out.1]
      obtain ⟨H7, k7⟩ := H8.out
      exact ⟨H7.drew.setT (s.t + z) (H7.ok.setT (by omega) (by have := HE.out.2; show s.t + z ≤ s.b; omega)), k7.drew.setCell (p := ⟨k, 4, none⟩) rfl _⟩
end Go.Proofs.Ytalabakmeepboaa
