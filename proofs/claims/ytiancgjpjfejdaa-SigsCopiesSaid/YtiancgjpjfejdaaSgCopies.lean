/-
  SigsCopies.
-/
import Derived.Test.YtiancgjpjfejdaaSgTwo
namespace Go.Proofs.Ytiancgjpjfejdaa
open Go.RowKit

theorem on_more (s : T) (n : Int) (i : Nat) (h : s.c i ≠ 0) : ((s.handle n true).rise n).c i ≠ 0 := by
  have h1 : (s.handle n true).c i = s.c i := by
    unfold T.handle
    split <;> rfl
  unfold T.rise
  split
  · unfold T.raise
    split
    · show upd _ n.toNat _ i ≠ 0
      unfold upd
      split
      · omega
      · rw [h1]; exact h
    · rw [h1]; exact h
  · rw [h1]; exact h
theorem sum_take {l : List (Nat × Nat)} {j : Nat} {x : Nat × Nat} (h : l[j]? = some x) : sum2 (l.take (j + 1)) = sum2 (l.take j) + x.2 := by
  rw [List.take_add_one, h, sum2_append]
  show _ + sum2 [x] = _
  rw [sum2_one]

set_option maxRecDepth 100000 in
set_option maxHeartbeats 8000000 in
theorem copies_any (w : World) (A : Option Addr) (c : Nat) (l : List Cal) (n : Int) (hn : l.length ≤ 200) (hA : ArgOps w A l) :
    Calls Try.prog 7 #[.slice A l.length c, .int .i64 n] w fun e w' => e = .returned (.bool true) ∧ Below w.heap.size w w' := by
  have HA := Lib.hid hA
  clear hA
  have hn1 : (l.length : Int) ≤ 200 := by omega
  go_enter Try.func7, Try.ntmps7
  go_wp2_with fail
  refine (alive_any w).mono ?_
  rintro e w1 ⟨rfl, hb1⟩
  have HT := Lib.hid (Ob.new (Nat.le_refl _) hb1 hb1.size)
  clear hb1
  go_wp2_with fail
  refine HT.out.mono ?_
  rintro e w2 ⟨rfl, O⟩
  obtain ⟨k, hk⟩ : ∃ k, k = w1.heap.size := ⟨_, rfl⟩
  rw [← hk] at O ⊢
  clear hk
  have H0 := Lib.hid (And.intro O (T.le_new 0))
  clear O
  go_wp2_with fail
  go_loopw [7] (fun p wr => ∃ (j : Nat) (s : T), p = .int .i64 (j : Int) ∧ j ≤ l.length ∧ Ob w.heap.size w wr k s ∧ s.le j) (fun p _ => l.length - (intOf p).toNat)
  case atStart => exact ⟨0, _, rfl, Nat.zero_le _, H0.out⟩
  case round =>
    obtain ⟨j, s, rfl, hj, O, hle⟩ := hrel
    by_cases hlt : j < l.length
    · obtain ⟨b, off, x, rfl, hbl, hz, x0, x1⟩ := HA.out.at_ O.bel hlt
      have b0 : (0 : Int) ≤ (j : Int) := by omega
      have b1 : (j : Int) < (l.length : Int) := by omega
      obtain ⟨kd, m⟩ := x
      simp only at x0 x1
      have HZ := Lib.hid hz
      have O2 : Ob w.heap.size w wr.drew k s := ⟨O.a.same rfl, O.hk, O.bel.drew⟩
      have HT := Lib.hid (fun on => O2.handle m on)
      have HL := Lib.hid hle
      have t1 := Int.tmod_lt_of_pos kd (show (0 : Int) < 3 by omega)
      have t2 := Int.lt_tmod_of_pos kd (show (0 : Int) < 3 by omega)
      have hw : IntKind.i64.wrap (Int.tmod kd 3) = Int.tmod kd 3 := by rw [IntKind.wrap_i64]; omega
      clear O O2 hle hz t1 t2
      go_wp2_with fail
      go_still_tail 13, (by kernel_rfl)
      change wpList _ _ _ _ _ wr.drew
      go_wp2_with fail
      refine (HT.out _).mono ?_
      rintro e w3 ⟨rfl, O⟩
      obtain ⟨bl3, -, y1⟩ := HA.out.cells O.bel HZ.out
      have HT2 := Lib.hid (O.raise m ((T.le_handle HL.out m _).mono (by omega)))
      have HL2 := Lib.hid (T.le_rise (T.le_handle HL.out m (Int.tmod kd 3 != 0)) m)
      simp only at y1
      clear O x0 x1
      go_wp2_with fail
      refine HT2.out.mono ?_
      rintro e w4 ⟨rfl, O⟩
      have HO := Lib.hid O
      clear O
      go_wp2_with fail
      go_roundw
      case rel => exact ⟨j + 1, _, by go_num, by omega, HO.out, HL2.out⟩
      case measure => simp [intOf] <;> omega
    · obtain rfl : j = l.length := by omega
      have hle2 : s.le 200 := hle.mono hn
      have HT := Lib.hid (copy_any O.a)
      have HO := Lib.hid (And.intro O hle2)
      clear O hle hle2
      go_wp2_with fail
      refine HT.out.mono ?_
      rintro e w3 ⟨rfl, hT, hb⟩
      have O := Tw.of HO.out.1 hT hb
      obtain ⟨q, hq⟩ : ∃ q, q = wr.heap.size := ⟨_, rfl⟩
      rw [← hq] at O ⊢
      clear hT hb hq
      have hle := HO.out.2
      have l7 : s.le 2147483647 := hle.mono (by omega)
      have l6 : s.le 2147483646 := hle.mono (by omega)
      have HL := Lib.hid (And.intro l7 l6)
      clear hle l7 l6
      have HT := Lib.hid (O.swap.pending HL.out.1)
      clear O
      go_wp2_with fail
      refine HT.out.mono ?_
      rintro e w4 ⟨rfl, O⟩
      have HT := Lib.hid (O.swap.pending HL.out.1)
      clear O
      go_wp2_with fail
      refine HT.out.mono ?_
      rintro e w5 ⟨rfl, O⟩
      have HT := Lib.hid (count_any O.b n)
      have HT2 := Lib.hid (count_any O.a n)
      have HT3 := Lib.hid (handled_any O.b n)
      have HT4 := Lib.hid (handled_any O.a n)
      have HT5 := Lib.hid O.swap.list
      clear O
      go_wp2_with fail
      refine HT.out.mono ?_
      rintro e w6 ⟨rfl, rfl⟩
      go_wp2_with fail
      refine HT2.out.mono ?_
      rintro e w7 ⟨rfl, rfl⟩
      go_wp2_with fail
      refine HT3.out.mono ?_
      rintro e w8 ⟨rfl, rfl⟩
      go_wp2_with fail
      refine HT4.out.mono ?_
      rintro e w9 ⟨rfl, rfl⟩
      go_wp2_with fail
      refine HT5.out.mono ?_
      rintro e wa ⟨A1, c1, rfl, O⟩
      have HT := Lib.hid O.swap.list
      clear O
      go_wp2_with fail
      refine HT.out.mono ?_
      rintro e wb ⟨A2, c2, rfl, O⟩
      have HT := Lib.hid (O.pending HL.out.1)
      clear O
      go_wp2_with fail
      refine HT.out.mono ?_
      rintro e wc ⟨rfl, O⟩
      have HT := Lib.hid (O.swap.handle n true)
      clear O
      go_wp2_with fail
      refine HT.out.mono ?_
      rintro e wd ⟨rfl, O⟩
      have HT := Lib.hid (O.raise n (T.le_handle HL.out.2 n true))
      clear O
      go_wp2_with fail
      refine HT.out.mono ?_
      rintro e we ⟨rfl, O⟩
      have HT := Lib.hid O.take
      clear O
      go_wp2_with fail
      refine HT.out.mono ?_
      rintro e wf ⟨v, rfl, hrow, O, -⟩
      obtain ⟨Av, cv, rfl, -, -, -⟩ := RowK.own_shows hrow
      have hmore : (s.pend 32).length ≤ (((s.handle n true).rise n).pend 32).length := pend_more (on_more s n) 32
      obtain ⟨nt, hnt⟩ : ∃ nt, nt = (((s.handle n true).rise n).pend 32).length := ⟨_, rfl⟩
      rw [← hnt] at hmore ⊢
      have HT := Lib.hid (O.swap.pending HL.out.1)
      clear O hrow hnt
      go_wp2_with fail
      refine HT.out.mono ?_
      rintro e wg ⟨rfl, O⟩
      have HT := Lib.hid (O.swap.pending (T.le_idle _ _))
      rw [show ((s.handle n true).rise n).idle.sum = 0 from by unfold T.sum; rw [T.pend_idle]; rfl] at HT
      clear O
      go_wp2_with fail
      refine HT.out.mono ?_
      rintro e wh ⟨rfl, O⟩
      have HT := Lib.hid O.swap.take
      clear O
      go_wp2_with fail
      refine HT.out.mono ?_
      rintro e wi ⟨v, rfl, hrow, O, -⟩
      obtain ⟨Au, cu, rfl, -, -, -⟩ := RowK.own_shows hrow
      obtain ⟨L, hL⟩ : ∃ L, L = s.pend 32 := ⟨_, rfl⟩
      obtain ⟨B3, hB3⟩ : ∃ B3, B3 = wh.heap.size := ⟨_, rfl⟩
      rw [← hL, ← hB3] at hrow
      rw [← hL] at hmore ⊢
      have hsum : sum2 L = s.sum := by rw [hL]; rfl
      have hL32 : L.length ≤ 32 := by rw [hL]; exact T.pend_len s 32
      have hmax : s.sum ≤ 32 * 200 := by
        have := T.tot_le HO.out.2 32
        rw [← T.sum_pend] at this
        exact this
      have hrise : ∀ p x y, L[p]? = some x → L[p + 1]? = some y → x.1 < y.1 := fun p x y hx hy => by
        rw [hL] at hx hy
        exact pend_rise s 32 hx hy (by omega)
      have hpos : ∀ x ∈ L, 1 ≤ x.2 := fun x hx => (pend_mem (by rw [hL] at hx; exact hx)).2.2
      have H3 := Lib.hid (And.intro O hrow)
      have HF := Lib.hid (And.intro hsum (And.intro hmax (And.intro hrise hpos)))
      clear O hrow hL hB3 hsum hmax hrise hpos
      go_wp2_with fail
      go_loopw [12, 13] (fun t p wr => ∃ a : Nat, p = .int .i64 (a : Int) ∧ a ≤ L.length ∧ t = .int .i64 ((sum2 (L.take a) : Nat) : Int) ∧ Tw w.heap.size w wr k s.idle q ((s.handle n true).rise n).idle ∧ RC.own wr B3 (.slice Au L.length cu) L) (fun _ p _ => L.length - (intOf p).toNat)
      case atStart => exact ⟨0, rfl, Nat.zero_le _, by simp [sum2], H3.out⟩
      case round =>
        obtain ⟨a, rfl, ha, rfl, O, hrow⟩ := hrel
        by_cases hal : a < L.length
        · obtain ⟨y, hy⟩ : ∃ y, L[a]? = some y := ⟨_, List.getElem?_eq_getElem hal⟩
          obtain ⟨g, c', e, lg, y0, y1⟩ := rc_at hrow hy
          injection e with e1 e2 e3
          subst e1
          clear e2 e3
          have hm : y ∈ L := List.mem_of_getElem? hy
          have hp := HF.out.2.2.2 y hm
          have hst := sum_take hy
          have hle := sum2_take L (a + 1)
          have hbig : sum2 L ≤ 6400 := by rw [HF.out.1]; exact HF.out.2.1
          obtain ⟨t1, ht1⟩ : ∃ t, t = sum2 (L.take a) := ⟨_, rfl⟩
          obtain ⟨ys, yn⟩ := y
          simp only at y0 y1 hp hst
          have hw : IntKind.i64.wrap ((t1 : Int) + (yn : Int)) = (t1 : Int) + (yn : Int) := by rw [IntKind.wrap_i64]; omega
          rw [← ht1]
          have HS := Lib.hid (show sum2 (L.take (a + 1)) = t1 + yn by rw [hst, ht1])
          have d1 : decide ((yn : Int) < 1) = false := by simp; omega
          have HO2 := Lib.hid (And.intro O hrow)
          have a0 : (0 : Int) ≤ (a : Int) := by omega
          have a1 : (a : Int) < (L.length : Int) := by omega
          obtain ⟨wn, hwn⟩ : ∃ wn, wn = wr.heap.size := ⟨_, rfl⟩
          cases a with
          | zero =>
            simp only [Nat.zero_mul, Nat.zero_add] at y0 y1
            clear O hrow hm hp hst hle hbig ht1 hwn hy a0
            go_wp2_with fail
            go_quiet (fail)
            go_wp2_with fail
            go_roundw
            case rel => exact ⟨1, rfl, by omega, by rw [HS.out]; go_num, HO2.out.1.drewN nq, RowK.own_same HO2.out.2 fun _ _ => rfl⟩
            case measure => simp [intOf] <;> omega
          | succ b =>
            obtain ⟨x, hx⟩ : ∃ x, L[b]? = some x := ⟨_, List.getElem?_eq_getElem (by omega)⟩
            obtain ⟨g', c', e, -, x0, -⟩ := rc_at hrow hx
            injection e with e1 e2 e3
            injection e1 with e1
            injection e1 with e1
            subst e1
            clear e2 e3
            have hrs := HF.out.2.2.1 b x _ hx hy
            obtain ⟨xs, xn⟩ := x
            simp only at x0 hrs
            have d2 : decide ((ys : Int) ≤ (xs : Int)) = false := by simp; omega
            have d4 : decide (ys ≤ xs) = false := by simp; omega
            have d3 : decide ((0 : Int) < (b : Int) + 1) = true := by simp <;> omega
            have hw2 : IntKind.i64.wrap ((b : Int) + 1 - 1) = (b : Int) := by rw [IntKind.wrap_i64]; omega
            have bl : (b : Int) < (L.length : Int) := by omega
            have b0 : (0 : Int) ≤ (b : Int) := by omega
            clear O hrow hm hp hst hle hbig ht1 hwn hy hx hrs
            go_wp2_with fail
            go_quiet (fail)
            go_wp2_with fail
            go_roundw
            case rel => exact ⟨b + 1 + 1, by go_num, by omega, by rw [HS.out]; go_num, HO2.out.1.drewN nq, RowK.own_same HO2.out.2 fun _ _ => rfl⟩
            case measure => simp [intOf] <;> omega
        · obtain rfl : a = L.length := by omega
          rw [List.take_length, HF.out.1]
          have HT := Lib.hid (O.pending (T.le_idle _ _))
          rw [show s.idle.sum = 0 from by unfold T.sum; rw [T.pend_idle]; rfl] at HT
          clear O hrow
          go_wp2_with fail
          refine HT.out.mono ?_
          rintro e wj ⟨rfl, O⟩
          have HE := Lib.hid O.bel
          have d5 : decide ((L.length : Int) ≤ (nt : Int)) = true := by simp; omega
          clear O
          go_wp2_with fail
          go_ret
          exact ⟨rfl, HE.out⟩
set_option maxRecDepth 100000 in
theorem copies_law (w : World) (A : Option Addr) (c : Nat) (l : List Cal) (n : Int) (hA : ArgOps w A l) :
    Calls Try.prog 7 #[.slice A l.length c, .int .i64 n] w fun e w' => e = .returned (.bool true) ∧ Below w.heap.size w w' := by
  by_cases hn : l.length ≤ 200
  · exact copies_any w A c l n hn hA
  · have hn1 : (200 : Int) < (l.length : Int) := by omega
    clear hA hn
    go_enter Try.func7, Try.ntmps7
    go_wp2_with fail
    refine (alive_any w).mono ?_
    rintro e w1 ⟨rfl, hb1⟩
    have HE := Lib.hid hb1
    clear hb1
    go_wp2_with fail
    go_ret
    exact ⟨rfl, HE.out⟩
end Go.Proofs.Ytiancgjpjfejdaa
