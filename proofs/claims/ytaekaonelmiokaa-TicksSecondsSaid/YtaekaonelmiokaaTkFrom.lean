/-
  The contracts of FromPair, beside the document's own: what each returns, for every input; nothing is turned.
-/
import Derived.Test.YtaekaonelmiokaaTkPair
namespace Go.Proofs.Ytaekaonelmiokaa
open Go.RowKit

/-- Are these the two numbers of a wait? -/
def good (c r s : Int) : Bool := decide (0 ≤ c ∧ c ≤ 1048 ∧ 0 ≤ r ∧ r < 1000 * s ∧ r % s = 0 ∧ c * 1000 + r / s ≤ 1048576)
def fw (c r s : Int) : Int := if sm s = false then 0 else if c = -1 ∧ r = -1 then 18446744073709551615 else if good c r s = true then c * 1000 + r / s else 0
def fe (c r s : Int) : Int := if sm s = false then 2 else if c = -1 ∧ r = -1 then 0 else if good c r s = true then 0 else 2
theorem f_small {c r s : Int} (h : sm s = false) : fw c r s = 0 ∧ fe c r s = 2 := by unfold fw fe; rw [if_pos h, if_pos h]; exact ⟨rfl, rfl⟩
theorem f_never {s : Int} (h : sm s = true) : fw (-1) (-1) s = 18446744073709551615 ∧ fe (-1) (-1) s = 0 := by unfold fw fe; simp [h]
theorem f_bad {c r s : Int} (h : sm s = true) (hn : ¬ (c = -1 ∧ r = -1)) (hg : good c r s = false) : fw c r s = 0 ∧ fe c r s = 2 := by unfold fw fe; simp [h, hn, hg]
theorem f_in {c r s : Int} (h : sm s = true) (hg : good c r s = true) : fw c r s = c * 1000 + r / s ∧ fe c r s = 0 := by
  have hn : ¬ (c = -1 ∧ r = -1) := by unfold good at hg; simp only [decide_eq_true_eq] at hg; omega
  unfold fw fe; rw [if_neg (by simp [h]), if_neg hn, if_pos hg, if_neg (by simp [h]), if_neg hn, if_pos hg]; exact ⟨rfl, rfl⟩
theorem u_wrap (n : Int) : U (IntKind.u64.wrap n) := by unfold U; rw [IntKind.wrap_u64]; omega
/-- What FromPair returns. -/
def RetF (w : World) (c r s : Int) (e : Ending) (w' : World) : Prop := e = .returned (.tuple #[.int .u64 (fw c r s), .int .i64 (fe c r s)]) ∧ w = w'

/-- Of numbers that are no wait's no wait has these. -/
theorem no_wait {c r s x : Int} (hs : sm s = true) (hn : ¬ (c = -1 ∧ r = -1)) (hg : good c r s = false) (h : U x) : pe x s = 2 ∨ (pe x s = 0 ∧ pc x s ≠ c) ∨ (pe x s = 0 ∧ pc x s = c ∧ pr x s ≠ r) := by
  by_cases hk : kw x = true
  · by_cases hv : x = 18446744073709551615
    · subst hv
      obtain ⟨a, b, d⟩ := p_never hs
      rw [a, b, d]
      by_cases h1 : c = -1
      · exact .inr (.inr ⟨rfl, h1.symm, fun h2 => hn ⟨h1, h2.symm⟩⟩)
      · exact .inr (.inl ⟨rfl, fun h2 => h1 h2.symm⟩)
    · have hx : x ≤ 1048576 := by unfold kw at hk; simp only [decide_eq_true_eq] at hk; omega
      obtain ⟨a, b, d⟩ := p_in hs h.1 hx
      rw [a, b, d]
      by_cases h1 : x / 1000 = c
      · refine .inr (.inr ⟨rfl, h1, fun h2 => ?_⟩)
        have h0 := h.1
        unfold good at hg
        simp only [decide_eq_false_iff_not] at hg
        unfold sm at hs
        simp only [decide_eq_true_eq] at hs
        rcases hs with rfl | rfl <;> omega
      · exact .inr (.inl ⟨rfl, h1⟩)
  · exact .inl (p_bad (.inr (by simpa using hk))).2.2
def NoWait (w : World) (c r : Int) (e : Ending) (w' : World) : Prop := (∃ p q g : Int, e = .returned (.tuple #[.int .i64 p, .int .i64 q, .int .i64 g]) ∧ (g = 2 ∨ (g = 0 ∧ p ≠ c) ∨ (g = 0 ∧ p = c ∧ q ≠ r))) ∧ w = w'
theorem pair_no {c r s : Int} (x : Int) (w : World) (hs : sm s = true) (hn : ¬ (c = -1 ∧ r = -1)) (hg : good c r s = false) (h : U x) (g : I s) : Calls Try.prog 17 #[.int .u64 x, .int .i64 s] w (NoWait w c r) :=
  (pair_any x s w h g).mono fun _ _ ⟨he, hw⟩ => ⟨⟨_, _, _, he, no_wait hs hn hg h⟩, hw⟩
theorem pair_small {s : Int} (x : Int) (w : World) (hs : sm s = false) (h : U x) (g : I s) : Calls Try.prog 17 #[.int .u64 x, .int .i64 s] w fun e w' => e = .returned (.tuple #[.int .i64 0, .int .i64 0, .int .i64 2]) ∧ w = w' :=
  (pair_any x s w h g).mono fun _ _ ⟨he, hw⟩ => ⟨by obtain ⟨a, b, d⟩ := p_bad (w := x) (s := s) (.inl hs); rw [he, a, b, d], hw⟩
theorem pair_never {s : Int} (w : World) (hs : sm s = true) (g : I s) : Calls Try.prog 17 #[.int .u64 18446744073709551615, .int .i64 s] w fun e w' => e = .returned (.tuple #[.int .i64 (-1), .int .i64 (-1), .int .i64 0]) ∧ w = w' :=
  (pair_any _ s w ⟨by omega, by omega⟩ g).mono fun _ _ ⟨he, hw⟩ => ⟨by obtain ⟨a, b, d⟩ := p_never hs; rw [he, a, b, d], hw⟩
theorem good_pair {c r s : Int} (hs : sm s = true) (hg : good c r s = true) : pc (c * 1000 + r / s) s = c ∧ pr (c * 1000 + r / s) s = r ∧ pe (c * 1000 + r / s) s = 0 ∧ U (c * 1000 + r / s) := by
  unfold good at hg
  simp only [decide_eq_true_eq] at hg
  have hs' := hs
  unfold sm at hs
  simp only [decide_eq_true_eq] at hs
  have h0 : 0 ≤ c * 1000 + r / s := by rcases hs with rfl | rfl <;> omega
  obtain ⟨a, b, d⟩ := p_in hs' h0 (by omega)
  rw [a, b, d]
  unfold U
  rcases hs with rfl | rfl <;> omega
theorem pair_good {c r s : Int} (w : World) (hs : sm s = true) (hg : good c r s = true) (g : I s) : Calls Try.prog 17 #[.int .u64 (c * 1000 + r / s), .int .i64 s] w fun e w' => e = .returned (.tuple #[.int .i64 c, .int .i64 r, .int .i64 0]) ∧ w = w' :=
  (pair_any _ s w (good_pair hs hg).2.2.2 g).mono fun _ _ ⟨he, hw⟩ => ⟨by obtain ⟨a, b, d, _⟩ := good_pair hs hg; rw [he, a, b, d], hw⟩
theorem rpair_good {c r s : Int} (w : World) (hs : sm s = true) (hg : good c r s = true) (g : I s) : Calls Try.prog 18 #[.int .u64 (c * 1000 + r / s), .int .i64 s] w fun e w' => e = .returned (.tuple #[.int .i64 c, .int .i64 r, .int .i64 0]) ∧ w = w' :=
  (rpair_any _ s w (good_pair hs hg).2.2.2 g).mono fun _ _ ⟨he, hw⟩ => ⟨by obtain ⟨a, b, d, _⟩ := good_pair hs hg; rw [he, a, b, d], hw⟩
theorem rpair_no {c r s : Int} (x : Int) (w : World) (hs : sm s = true) (hn : ¬ (c = -1 ∧ r = -1)) (hg : good c r s = false) (h : U x) (g : I s) : Calls Try.prog 18 #[.int .u64 x, .int .i64 s] w (NoWait w c r) :=
  (rpair_any x s w h g).mono fun _ _ ⟨he, hw⟩ => ⟨⟨_, _, _, he, no_wait hs hn hg h⟩, hw⟩

set_option maxHeartbeats 1000000 in
theorem fromPair_any (c r s : Int) (w : World) (hc : I c) (hr : I r) (hs : I s) : Calls Try.prog 19 #[.int .i64 c, .int .i64 r, .int .i64 s] w (RetF w c r s) := by
  obtain ⟨c0, c1⟩ := hc
  obtain ⟨r0, r1⟩ := hr
  have hs' := hs
  obtain ⟨s0, s1⟩ := hs
  by_cases hv : c = -1 ∧ r = -1
  · obtain ⟨rfl, rfl⟩ := hv
    cases hsm : sm s with
    | true =>
      have H := Lib.hid hsm
      clear hsm
      go_enter Try.func19, Try.ntmps19
      go_wp2_with (go_at_call 17; refine (pair_never _ H.out hs').mono ?_; rintro e w' ⟨rfl, rfl⟩)
      go_ret2
      exact ⟨ret2 (f_never H.out).1.symm (f_never H.out).2.symm, rfl⟩
    | false =>
      have H := Lib.hid hsm
      clear hsm
      go_enter Try.func19, Try.ntmps19
      go_wp2_with (go_at_call 17; refine (pair_small _ _ H.out ⟨by omega, by omega⟩ hs').mono ?_; rintro e w' ⟨rfl, rfl⟩)
      go_ret2
      exact ⟨ret2 (f_small H.out).1.symm (f_small H.out).2.symm, rfl⟩
  · have q1 : ((c : Int) != -1) = true ∨ (((c : Int) != -1) = false ∧ ((r : Int) != -1) = true) := by
      by_cases h : c = -1
      · exact .inr ⟨by simp [h], by simp; omega⟩
      · exact .inl (by simpa using h)
    rcases q1 with q1 | ⟨q1, q2⟩
    all_goals
      cases hsm : sm s with
      | false =>
        have H := Lib.hid hsm
        have Hv := Lib.hid hv
        clear hsm hv
        go_enter Try.func19, Try.ntmps19
        go_wp2_with fail
        all_goals
          refine (pair_small _ _ H.out (by first | exact u_wrap _ | (unfold U; omega)) hs').mono ?_
          rintro e w' ⟨rfl, rfl⟩
          go_wp2
          go_ret2
          exact ⟨ret2 (f_small H.out).1.symm (f_small H.out).2.symm, rfl⟩
      | true =>
        have H := Lib.hid hsm
        have Hv := Lib.hid hv
        cases hg : good c r s with
        | true =>
          have Hg := Lib.hid hg
          have Hf := Lib.hid (f_in hsm hg)
          have Hp := fun w => pair_good w hsm hg hs'
          have HP := Lib.hid Hp
          unfold good at hg
          simp only [decide_eq_true_eq] at hg
          obtain ⟨b0, b1, b2, b3, b4, b5⟩ := hg
          have B4 := Lib.hid b4
          unfold sm at hsm
          simp only [decide_eq_true_eq] at hsm
          clear hv b4 Hp
          rcases hsm with rfl | rfl
          all_goals
            go_enter Try.func19, Try.ntmps19
            go_wp2_with fail
            refine (HP.out _).mono ?_
            rintro e w' ⟨rfl, rfl⟩
            go_wp2
            go_ret2
            exact ⟨ret2 Hf.out.1.symm Hf.out.2.symm, rfl⟩
        | false =>
          have Hg := Lib.hid hg
          have Hf := Lib.hid (f_bad hsm hv hg)
          unfold sm at hsm
          simp only [decide_eq_true_eq] at hsm
          clear hv hg
          rcases hsm with rfl | rfl
          all_goals
            go_enter Try.func19, Try.ntmps19
            go_wp2_with fail
            refine (pair_no _ _ H.out Hv.out Hg.out (by first | exact u_wrap _ | (unfold U; omega)) hs').mono ?_
            rintro e w' ⟨⟨p, q, g, rfl, hh⟩, rfl⟩
            rcases hh with rfl | ⟨rfl, h1⟩ | ⟨rfl, rfl, h2⟩
            · go_wp2
              go_ret2
              exact ⟨ret2 Hf.out.1.symm Hf.out.2.symm, rfl⟩
            · have e1 : (p != c) = true := by simpa using h1
              clear h1
              go_wp2
              go_ret2
              exact ⟨ret2 Hf.out.1.symm Hf.out.2.symm, rfl⟩
            · have e1 : (q != r) = true := by simpa using h2
              clear h2
              go_wp2
              go_ret2
              exact ⟨ret2 Hf.out.1.symm Hf.out.2.symm, rfl⟩

set_option maxHeartbeats 1000000 in
theorem rfromPair_any (c r s : Int) (w : World) (hc : I c) (hr : I r) (hs : I s) : Calls Try.prog 20 #[.int .i64 c, .int .i64 r, .int .i64 s] w (RetF w c r s) := by
  obtain ⟨c0, c1⟩ := hc
  obtain ⟨r0, r1⟩ := hr
  have hs' := hs
  obtain ⟨s0, s1⟩ := hs
  cases hsm : sm s with
  | false =>
    have H := Lib.hid (f_small (c := c) (r := r) hsm)
    unfold sm at hsm
    simp only [decide_eq_false_iff_not] at hsm
    have n1 : (s != 1000) = true := by simpa using fun h => hsm (.inl h)
    have n2 : (s != 1000000) = true := by simpa using fun h => hsm (.inr h)
    clear hsm
    go_enter Try.func20, Try.ntmps20
    go_wp2_with fail
    go_ret2
    exact ⟨ret2 H.out.1.symm H.out.2.symm, rfl⟩
  | true =>
    have H := Lib.hid hsm
    unfold sm at hsm
    simp only [decide_eq_true_eq] at hsm
    by_cases hv : c = -1 ∧ r = -1
    · obtain ⟨rfl, rfl⟩ := hv
      rcases hsm with rfl | rfl
      all_goals
        go_enter Try.func20, Try.ntmps20
        go_wp2_with fail
        go_ret2
        exact ⟨ret2 (f_never H.out).1.symm (f_never H.out).2.symm, rfl⟩
    · have q1 : ((c : Int) == -1) = false ∨ (((c : Int) == -1) = true ∧ ((r : Int) == -1) = false) := by
        by_cases h : c = -1
        · exact .inr ⟨by simp [h], by simp; omega⟩
        · exact .inl (by simpa using h)
      have HQ := Lib.hid q1
      cases hg : good c r s with
      | true =>
        have Hf := Lib.hid (f_in H.out hg)
        have Hp := Lib.hid (fun w => rpair_good w H.out hg hs')
        unfold good at hg
        simp only [decide_eq_true_eq] at hg
        obtain ⟨b0, b1, b2, b3, b4, b5⟩ := hg
        have B4 := Lib.hid b4
        have q2 : (c == -1) = false := by simp; omega
        clear hv b4 q1 HQ
        rcases hsm with rfl | rfl
        all_goals
          go_enter Try.func20, Try.ntmps20
          go_wp2_with fail
          refine (Hp.out _).mono ?_
          rintro e w' ⟨rfl, rfl⟩
          go_wp2
          go_ret2
          exact ⟨ret2 Hf.out.1.symm Hf.out.2.symm, rfl⟩
      | false =>
        have Hf := Lib.hid (f_bad H.out hv hg)
        have Hv := Lib.hid hv
        have Hg := Lib.hid hg
        clear hv hg
        by_cases d0 : c < 0 ∨ 1048 < c ∨ r < 0 ∨ 1000 * s ≤ r
        · have d1 : c < 0 ∨ (¬ c < 0 ∧ 1048 < c) ∨ (¬ c < 0 ∧ c ≤ 1048 ∧ r < 0) ∨ (¬ c < 0 ∧ c ≤ 1048 ∧ ¬ r < 0 ∧ 1000 * s ≤ r) := by omega
          clear d0
          rcases q1 with q1 | ⟨q1, q2⟩ <;> rcases hsm with rfl | rfl <;> rcases d1 with d1 | ⟨d1, d2⟩ | ⟨d1, d2, d3⟩ | ⟨d1, d2, d3, d4⟩
          all_goals
            first
            | (exfalso; simp at q1; omega)
            | (go_enter Try.func20, Try.ntmps20
               go_wp2_with fail
               go_ret2
               exact ⟨ret2 Hf.out.1.symm Hf.out.2.symm, rfl⟩)
        · have d1 : 0 ≤ c := by omega
          have d2 : c ≤ 1048 := by omega
          have d3 : 0 ≤ r := by omega
          have d4 : r < 1000 * s := by omega
          have q2 : (c == -1) = false := by simp; omega
          clear d0 q1 HQ
          rcases hsm with rfl | rfl
          all_goals
            go_enter Try.func20, Try.ntmps20
            go_wp2_with fail
            refine (rpair_no _ _ H.out Hv.out Hg.out (by first | exact u_wrap _ | (unfold U; omega)) hs').mono ?_
            rintro e w' ⟨⟨p, q, g, rfl, hh⟩, rfl⟩
            rcases hh with rfl | ⟨rfl, h1⟩ | ⟨rfl, rfl, h2⟩
            · go_wp2
              go_ret2
              exact ⟨ret2 Hf.out.1.symm Hf.out.2.symm, rfl⟩
            · have e1 : (p != c) = true := by simpa using h1
              clear h1
              go_wp2
              go_ret2
              exact ⟨ret2 Hf.out.1.symm Hf.out.2.symm, rfl⟩
            · have e1 : (q != r) = true := by simpa using h2
              clear h2
              go_wp2
              go_ret2
              exact ⟨ret2 Hf.out.1.symm Hf.out.2.symm, rfl⟩
end Go.Proofs.Ytaekaonelmiokaa
