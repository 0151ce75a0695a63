/-
  The reference's bucket: how it lies in memory, and the contracts of its calls.
-/
import Derived.Test.YtalabakmeepboaaBkOps
namespace Go.Proofs.Ytalabakmeepboaa
open Go.RowKit

structure Rk (w : World) (k : Nat) (s : S) : Prop where
  blk : Blk w k 32 #[.int .i64 s.m, .int .i64 s.b, .int .u64 s.e, .int .i64 s.t, .int .u64 s.c]
  ok : s.Ok
section
variable {w w' : World} {k : Nat} {s : S}
theorem Rk.lt (h : Rk w k s) : k < w.heap.size := h.blk.lt
theorem Rk.same (h : Rk w k s) (e : w'.heap[k]? = w.heap[k]?) : Rk w' k s := ⟨h.blk.same e, h.ok⟩
theorem Rk.kept {F : Nat → Prop} (h : Rk w k s) (q : Kept F w w') (hf : ¬ F k) : Rk w' k s := ⟨h.blk.kept q hf, h.ok⟩
theorem Rk.below (h : Rk w k s) (hb : Below w.heap.size w w') : Rk w' k s := h.same (hb.block k h.lt)
theorem Rk.alloc (h : Rk w k s) (o : Obj) : Rk (w.alloc o) k s := ⟨h.blk.alloc o, h.ok⟩
theorem Rk.drew (h : Rk w k s) : Rk w.drew k s := h.same rfl
theorem Rk.drewN (h : Rk w k s) (n : Nat) : Rk (w.drewN n) k s := h.same rfl
theorem Rk.cells (h : Rk w k s) : w.cell? ⟨k, 0, none⟩ = some (.int .i64 s.m) ∧ w.cell? ⟨k, 1, none⟩ = some (.int .i64 s.b) ∧ w.cell? ⟨k, 2, none⟩ = some (.int .u64 s.e) ∧ w.cell? ⟨k, 3, none⟩ = some (.int .i64 s.t) ∧ w.cell? ⟨k, 4, none⟩ = some (.int .u64 s.c) :=
  ⟨(h.blk.cell 0), (h.blk.cell 1), (h.blk.cell 2), (h.blk.cell 3), (h.blk.cell 4)⟩
theorem Rk.setC (h : Rk w k s) (c : Int) (hs : (s.setC c).Ok) : Rk (w.setCell ⟨k, 4, none⟩ (.int .u64 c)) k (s.setC c) :=
  ⟨by have := h.blk.set_ 4 (.int .u64 c); simp at this; exact this, hs⟩
theorem Rk.setT (h : Rk w k s) (t : Int) (hs : (s.setT t).Ok) : Rk (w.setCell ⟨k, 3, none⟩ (.int .i64 t)) k (s.setT t) :=
  ⟨by have := h.blk.set_ 3 (.int .i64 t); simp at this; exact this, hs⟩
end
/-- What a call does to the reference's bucket. -/
def Rsd (w : World) (k : Nat) (s : S) (w' : World) : Prop := Rk w' k s ∧ Kept (fun i => i = k) w w'

theorem may_yes {m e b : Int} (w : World) (h : rateB m e b = true) : Calls Try.prog 24 #[.int .i64 m, .int .u64 e, .int .i64 b] w fun x w' => x = .returned (.bool true) ∧ w = w' := by
  obtain ⟨h1, h2, h3, h4, h5⟩ := rateB_yes.1 h
  have h6 : m ≤ 2147483647 := by omega
  clear h
  go_enter Try.func24, Try.ntmps24
  go_wp2_with fail
  go_ret
  exact ⟨rfl, rfl⟩
theorem may_no {m e b : Int} (w : World) (h : rateB m e b = false) : Calls Try.prog 24 #[.int .i64 m, .int .u64 e, .int .i64 b] w fun x w' => x = .returned (.bool false) ∧ w = w' := by
  have h := rateB_no.1 h
  by_cases h1 : m < 1
  rotate_left
  by_cases h6 : 2147483647 < m
  rotate_left
  by_cases h4 : e < 1
  rotate_left
  by_cases h5 : 1048576 < e
  rotate_left
  by_cases h2 : b < m
  rotate_left
  have h3 : 2147483647 < b := by omega
  have h7 : decide (b ≤ 2147483647) = false := by simp; omega
  all_goals
    clear h
    go_enter Try.func24, Try.ntmps24
    go_wp2_with fail
    go_ret
    exact ⟨rfl, rfl⟩

theorem rnew_yes {m e b now : Int} (w : World) (h : rateB m e b = true) :
    Calls Try.prog 11 #[.int .i64 m, .int .u64 e, .int .i64 b, .int .u64 now] w fun x w' => x = .returned (.tuple #[.agg #[.int .i64 m, .int .i64 b, .int .u64 e, .int .i64 b, .int .u64 now], .int .i64 0]) ∧ Below w.heap.size w w' := by
  have HM := Lib.hid (fun w => may_yes w h)
  clear h
  go_enter Try.func11, Try.ntmps11
  go_wp2_with fail
  refine (HM.out _).mono ?_
  rintro x w1 ⟨rfl, rfl⟩
  go_wp2_with fail
  exact bodyPost_ret (v := .tuple #[.agg #[.int .i64 m, .int .i64 b, .int .u64 e, .int .i64 b, .int .u64 now], .int .i64 0]) (by simp [results, Try.results11, go_sem]) rfl ⟨rfl, (Below.refl _ _).alloc (Nat.le_refl _) _⟩
theorem rnew_no {m e b now : Int} (w : World) (h : rateB m e b = false) :
    Calls Try.prog 11 #[.int .i64 m, .int .u64 e, .int .i64 b, .int .u64 now] w fun x w' => x = .returned (.tuple #[.agg #[.int .i64 0, .int .i64 0, .int .u64 0, .int .i64 0, .int .u64 0], .int .i64 80]) ∧ Below w.heap.size w w' := by
  have HM := Lib.hid (fun w => may_no w h)
  clear h
  go_enter Try.func11, Try.ntmps11
  go_wp2_with fail
  refine (HM.out _).mono ?_
  rintro x w1 ⟨rfl, rfl⟩
  go_wp2_with fail
  exact bodyPost_ret (v := .tuple #[.agg #[.int .i64 0, .int .i64 0, .int .u64 0, .int .i64 0, .int .u64 0], .int .i64 80]) (by simp [results, Try.results11, go_sem]) rfl ⟨rfl, (Below.refl _ _).alloc (Nat.le_refl _) _⟩

section
variable {w : World} {k : Nat} {s : S} {now n : Int}
theorem rcomes (H : Rk w k s) (hn : U now) :
    Calls Try.prog 20 #[.pointer (some ⟨k, 0, none⟩), .int .u64 now] w fun x w' => x = .returned (.tuple #[]) ∧ Rsd w k (s.pass now) w' := by
  obtain ⟨c0, c1, c2, c3, c4⟩ := H.cells
  have hk := H.lt
  have hok := H.ok
  have z0 := hok.c0
  have z1 := hok.c1
  obtain ⟨n0, n1⟩ := hn
  by_cases hc : now ≤ s.c
  · have HE := Lib.hid (And.intro (S.pass_none hok hc) H)
    clear H c0 c1 c2 c3 hok
    go_enter Try.func20, Try.ntmps20
    go_wp2_with fail
    refine bodyPost_ret (results_none rfl _ _ _) rfl ⟨rfl, ?_⟩
    rw [HE.out.1]
    exact ⟨HE.out.2, Kept.refl _ _⟩
  · have hlt : s.c < now := by omega
    have hep := per_pos (e := s.e) hlt
    have hpn := per_nn (e := s.e) (c := s.c) (now := now) hok.e1
    have hlo := per_lo (e := s.e) (c := s.c) (now := now) hok.e1 (by omega)
    have hpe := mul_nn hpn hok.e1
    have hge := mul_ge hpn hok.e1
    have hpm := mul_nn hpn hok.m1
    have he1 := hok.e1
    obtain ⟨p, hp⟩ : ∃ p, p = per s.e s.c now := ⟨_, rfl⟩
    rw [← hp] at hep hpn hlo hpe hge hpm
    obtain ⟨q, hq⟩ : ∃ q, q = p * s.e := ⟨_, rfl⟩
    rw [← hq] at hlo hpe hge
    have hsub : IntKind.u64.wrap (now - s.c) = now - s.c := by rw [IntKind.wrap_u64]; omega
    have hmul : IntKind.u64.wrap (p * s.e) = q := by rw [← hq, IntKind.wrap_u64]; omega
    have hadd : IntKind.u64.wrap (s.c + q) = s.c + q := by rw [IntKind.wrap_u64]; omega
    have HH := Lib.hid (And.intro H (And.intro hok (And.intro hp (And.intro hq hep))))
    clear H hok hp hq hep
    go_enter Try.func20, Try.ntmps20
    go_wp2_with fail
    go_quiet (fail)
    go_wp2_with fail
    have hx : (now - s.c) / s.e = p := HH.out.2.2.2.2.symm
    simp only [hx]
    clear hx
    have H5 : Rk (w.drewN nq) k s := HH.out.1.drewN nq
    have k5 : Kept (fun i => i = k) w (w.drewN nq) := (Kept.refl _ w).drewN nq
    obtain ⟨w5, hw5⟩ : ∃ v, v = w.drewN nq := ⟨_, rfl⟩
    rw [← hw5] at H5 k5 ⊢
    obtain ⟨d0, d1, d2, d3, d4⟩ := H5.cells
    have hk5 := H5.lt
    have f5 := H5.blk.frozen 4
    have H6 := (H5.setC (s.c + q) (HH.out.2.1.setC (by omega) (by omega))).drew
    have k6 : Kept (fun i => i = k) w (w5.setCell ⟨k, 4, none⟩ (.int .u64 (s.c + q))).drew := (k5.setCell (p := ⟨k, 4, none⟩) rfl _).drew
    have HM := Lib.hid (And.intro H6 k6)
    clear c0 c1 c2 c3 c4 hw5 H5 H6 k5 k6 hk d0 d1 d3 hsub
    go_still_tail 14, (by kernel_rfl)
    change wpList _ _ _ _ _ w5.drew
    go_wp2_with fail
    obtain ⟨w6, hw6⟩ : ∃ v, v = (w5.setCell ⟨k, 4, none⟩ (.int .u64 (s.c + q))).drew := ⟨_, rfl⟩
    rw [← hw6] at HM ⊢
    clear hw6 f5 d2 d4 hk5 hmul hadd
    obtain ⟨d0, d1, d2, d3, d4⟩ := HM.out.1.cells
    change w6.cell? _ = some (.int .i64 s.m) at d0
    change w6.cell? _ = some (.int .i64 s.b) at d1
    change w6.cell? _ = some (.int .i64 s.t) at d3
    have hk6 := HM.out.1.lt
    have hok := HH.out.2.1
    have ht1 := hok.t1
    have htb := hok.tb
    have hb1 := hok.b1
    have hm1 := hok.m1
    have hsb : IntKind.i64.wrap (s.b - s.t) = s.b - s.t := by rw [IntKind.wrap_i64]; omega
    have hlack := pass_lack (m := s.m) (b := s.b) (t := s.t) (p := p) hok.m1 hpn
    have hmx := hok.mb
    clear d2 d4 hok
    have hpq := HH.out.2.2.1
    have hqq := HH.out.2.2.2.1
    have hEq0 : ∀ t, min s.b (s.t + p * s.m) = t → s.pass now = (s.setC (s.c + q)).setT t := fun t ht => by rw [S.pass_eq, ← hpq, ← hqq, ht]
    have hEq := Lib.hid hEq0
    clear hEq0
    have hpbig : s.b - s.t ≤ p ∨ p < s.b - s.t := by omega
    have HM1 := Lib.hid (fun n => And.intro (HM.out.1.drewN n) (HM.out.2.drewN n))
    clear hpq hqq hge hlo
    have f3 := HM.out.1.blk.frozen 3
    rcases hpbig with hcr | hcr
    · have HE := Lib.hid (hEq.out s.b (hlack hcr))
      clear hlack
      go_quiet (fail)
      go_wp2_with fail
      refine bodyPost_ret (results_none rfl _ _ _) rfl ⟨rfl, ?_⟩
      rw [HE.out]
      obtain ⟨h1, h2⟩ := HM1.out nq
      exact ⟨h1.setT s.b (h1.ok.setT (by omega) (Int.le_refl _)), h2.setCell (p := ⟨k, 3, none⟩) rfl _⟩
    · have hmu := mul_up (p := p) (m := s.m) (P := 4294967293) (M := 2147483647) hpn (by omega) (by omega) (by omega)
      have hmu2 : s.t + p * s.m ≤ 9223372036854775807 := by
        have e1 : p * s.m = p * (s.m - 1) + p := by rw [Int.mul_sub]; omega
        have e2 := mul_up (p := p) (m := s.m - 1) (P := 4294967293) (M := 2147483646) hpn (by omega) (by omega) (by omega)
        omega
      obtain ⟨z, hz⟩ : ∃ z, z = p * s.m := ⟨_, rfl⟩
      rw [← hz] at hEq hpm hmu hmu2
      have hzm : IntKind.i64.wrap (p * s.m) = z := by rw [← hz, IntKind.wrap_i64]; omega
      have hza : IntKind.i64.wrap (s.t + z) = s.t + z := by rw [IntKind.wrap_i64]; omega
      have hzp : IntKind.i64.wrap p = p := by rw [IntKind.wrap_i64]; omega
      clear hlack hz hmu
      by_cases hbz : s.b ≤ s.t + z
      · have HE := Lib.hid (hEq.out s.b (by omega))
        go_quiet (fail)
        go_wp2_with fail
        have H7 := HM1.out nq
        obtain ⟨w7, hw7⟩ : ∃ v, v = w6.drewN nq := ⟨_, rfl⟩
        rw [← hw7] at H7 ⊢
        obtain ⟨e0, e1, e2, e3, e4⟩ := H7.1.cells
        change w7.cell? _ = some (.int .i64 s.m) at e0
        change w7.cell? _ = some (.int .i64 s.b) at e1
        change w7.cell? _ = some (.int .i64 s.t) at e3
        have hk7 := H7.1.lt
        have g3 := H7.1.blk.frozen 3
        have H7 := Lib.hid H7
        clear hw7 d0 d1 d3 f3 hk6 e2 e4
        go_still_tail 20, (by kernel_rfl)
        change wpList _ _ _ _ _ w7.drew
        go_wp2_with fail
        go_end0
        refine ⟨rfl, ?_⟩
        rw [HE.out]
        obtain ⟨h1, h2⟩ := H7.out
        exact ⟨h1.drew.setT s.b (h1.ok.setT (by omega) (Int.le_refl _)), h2.drew.setCell (p := ⟨k, 3, none⟩) rfl _⟩
      · have HE := Lib.hid (hEq.out (s.t + z) (by omega))
        go_quiet (fail)
        go_wp2_with fail
        have H7 := HM1.out nq
        obtain ⟨w7, hw7⟩ : ∃ v, v = w6.drewN nq := ⟨_, rfl⟩
        rw [← hw7] at H7 ⊢
        obtain ⟨e0, e1, e2, e3, e4⟩ := H7.1.cells
        change w7.cell? _ = some (.int .i64 s.m) at e0
        change w7.cell? _ = some (.int .i64 s.b) at e1
        change w7.cell? _ = some (.int .i64 s.t) at e3
        have hk7 := H7.1.lt
        have g3 := H7.1.blk.frozen 3
        have H7 := Lib.hid H7
        clear hw7 d0 d1 d3 f3 hk6 e2 e4
        go_still_tail 20, (by kernel_rfl)
        change wpList _ _ _ _ _ w7.drew
        go_wp2_with fail
        go_end0
        refine ⟨rfl, ?_⟩
        rw [HE.out]
        obtain ⟨h1, h2⟩ := H7.out
        exact ⟨h1.drew.setT (s.t + z) (h1.ok.setT (by omega) (by show s.t + z ≤ s.b; omega)), h2.drew.setCell (p := ⟨k, 3, none⟩) rfl _⟩
end
end Go.Proofs.Ytalabakmeepboaa
