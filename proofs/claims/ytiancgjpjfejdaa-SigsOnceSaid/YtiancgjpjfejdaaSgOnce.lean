/-
  SigsOnce.
-/
import Derived.Test.YtiancgjpjfejdaaSgLaw
namespace Go.Proofs.Ytiancgjpjfejdaa
open Go.RowKit

/-- How often a signal is told in a list of pairs. -/
def tell (l : List (Nat × Nat)) (i : Nat) : Nat := ((l.filter fun x => x.1 == i).map (·.2)).sum
theorem tell_nil (i : Nat) : tell [] i = 0 := rfl
theorem tell_append (a b : List (Nat × Nat)) (i : Nat) : tell (a ++ b) i = tell a i + tell b i := by simp [tell]
theorem tell_one (x : Nat × Nat) (i : Nat) : tell [x] i = if x.1 = i then x.2 else 0 := by
  unfold tell
  by_cases h : x.1 = i <;> simp [h]
theorem tell_far (s : T) {i : Nat} : ∀ k, k ≤ i → tell (s.pend k) i = 0
  | 0, _ => rfl
  | k + 1, h => by
    rw [T.pend_succ]
    split
    · exact tell_far s k (by omega)
    · rw [tell_append, tell_one, tell_far s k (by omega)]
      simp
      omega
theorem tell_pend (s : T) {i : Nat} : ∀ k, i < k → tell (s.pend k) i = s.c i
  | k + 1, h => by
    rw [T.pend_succ]
    by_cases e : i = k
    · subst e
      split
      · rename_i h0; rw [tell_far s i (Nat.le_refl _), h0]
      · rw [tell_append, tell_one, tell_far s i (Nat.le_refl _)]; simp
    · have ih := tell_pend s k (show i < k by omega)
      split
      · exact ih
      · rw [tell_append, tell_one, ih, if_neg (by simp; omega)]; omega
theorem tell_take {l : List (Nat × Nat)} {j : Nat} {x : Nat × Nat} (h : l[j]? = some x) (i : Nat) : tell (l.take (j + 1)) i = tell (l.take j) i + if x.1 = i then x.2 else 0 := by
  rw [List.take_add_one, h, tell_append]
  show _ + tell [x] i = _
  rw [tell_one]
theorem tell_le (l : List (Nat × Nat)) (j i : Nat) : tell (l.take j) i ≤ tell l i := by
  conv => rhs; rw [← List.take_append_drop j l, tell_append]
  omega

section
variable {s : T} {i : Nat} {n : Int}
theorem on_h (s : T) (n : Int) (h : s.h i = true) : (s.handle n true).h i = true := by
  unfold T.handle
  split
  · show upd s.h n.toNat true i = true
    unfold upd
    split
    · rfl
    · exact h
  · exact h
theorem on_c (s : T) (n : Int) (i : Nat) : (s.handle n true).c i = s.c i := by
  unfold T.handle
  split <;> rfl
theorem far_set (s : T) {j : Nat} (hj : j ≠ i) (on : Bool) : (s.set j on).h i = s.h i ∧ (s.set j on).c i = s.c i := by
  refine ⟨upd_other _ _ (fun e => hj e.symm), ?_⟩
  unfold T.set
  cases on
  · exact upd_other _ _ (fun e => hj e.symm)
  · rfl
theorem far_raise (s : T) {j : Nat} (hj : j ≠ i) : (s.raise j).h i = s.h i ∧ (s.raise j).c i = s.c i := by
  unfold T.raise
  split
  · exact ⟨rfl, upd_other _ _ (fun e => hj e.symm)⟩
  · exact ⟨rfl, rfl⟩
theorem far_handle (s : T) (hn : n ≠ (i : Int)) (on : Bool) : (s.handle n on).h i = s.h i ∧ (s.handle n on).c i = s.c i := by
  unfold T.handle
  split
  · rename_i h
    obtain ⟨j, rfl, _, _⟩ := isSig_nat h
    exact far_set s (by omega) on
  · exact ⟨rfl, rfl⟩
theorem far_rise (s : T) (hn : n ≠ (i : Int)) : (s.rise n).h i = s.h i ∧ (s.rise n).c i = s.c i := by
  unfold T.rise
  split
  · rename_i h
    obtain ⟨j, rfl, _, _⟩ := isSig_nat h
    exact far_raise s (by omega)
  · exact ⟨rfl, rfl⟩
theorem rise_h (s : T) (n : Int) (j : Nat) : (s.rise n).h j = s.h j := by
  unfold T.rise T.raise
  split
  · split <;> rfl
  · rfl
theorem rise_own (s : T) (h1 : 1 ≤ i) (h2 : i ≤ 31) (h : s.h i = true) : (s.rise (i : Int)).c i = s.c i + 1 := by
  have e1 : isSig (i : Int) = true := isSig_yes.2 (by omega)
  unfold T.rise
  rw [e1]
  show (s.raise i).c i = _
  unfold T.raise
  rw [h]
  exact upd_same _ _ _
end

/-- Between two rounds. -/
structure OnI (w : World) (B k i told raised j : Nat) (s : T) (W : World) : Prop where
  o : Ob B w W k s
  h : s.h i = true
  e : told + s.c i = raised
  r : raised ≤ j
  l : s.le j
section
variable {w W W' : World} {B k i told raised j : Nat} {s s' : T}
theorem OnI.next (H : OnI w B k i told raised j s W) (o : Ob B w W' k s') (h : s'.h i = true) (c : s'.c i = s.c i) (l : s'.le (j + 1)) : OnI w B k i told raised (j + 1) s' W' :=
  ⟨o, h, by rw [c]; exact H.e, by have := H.r; omega, l⟩
end

set_option maxRecDepth 100000 in
set_option maxHeartbeats 8000000 in
theorem once_any (w : World) (A : Option Addr) (c : Nat) (l : List Cal) (i : Nat) (h1 : 1 ≤ i) (h2 : i ≤ 31) (hn : l.length ≤ 150) (hA : ArgOps w A l) :
    Calls Try.prog 5 #[.slice A l.length c, .int .i64 (i : Int)] w fun e w' => e = .returned (.bool true) ∧ Below w.heap.size w w' := by
  have HA := Lib.hid hA
  clear hA
  have hn1 : (l.length : Int) ≤ 150 := by omega
  go_enter Try.func5, Try.ntmps5
  go_wp2_with fail
  refine (alive_any w).mono ?_
  rintro e w1 ⟨rfl, hb1⟩
  have HT := Lib.hid (Ob.new (Nat.le_refl _) hb1 hb1.size)
  clear hb1
  go_wp2_with fail
  refine HT.out.mono ?_
  rintro e w2 ⟨rfl, O⟩
  obtain ⟨k, hk⟩ : ∃ k, k = w1.heap.size := ⟨_, rfl⟩
  rw [← hk] at O ⊢
  clear hk
  have HT := Lib.hid (O.handle (i : Int) true)
  rw [show code (i : Int) = 0 from by unfold code; rw [isSig_yes.2 (by omega)]; rfl] at HT
  clear O
  go_wp2_with fail
  refine HT.out.mono ?_
  rintro e w3 ⟨rfl, O⟩
  have H0 := Lib.hid (show OnI w w.heap.size k i 0 0 0 (T.new.handle (i : Int) true) w3 from ⟨O, by
    unfold T.handle
    rw [isSig_yes.2 (by omega)]
    exact upd_same _ _ _, by rw [on_c]; rfl, Nat.le_refl _, T.le_handle (T.le_new 0) _ _⟩)
  clear O
  go_wp2_with fail
  go_loopw [8, 9, 10] (fun r t p wr => ∃ (raised told j : Nat) (s : T), r = .int .i64 (raised : Int) ∧ t = .int .i64 (told : Int) ∧ p = .int .i64 (j : Int) ∧ j ≤ l.length ∧ OnI w w.heap.size k i told raised j s wr) (fun _ _ p _ => l.length - (intOf p).toNat)
  case atStart => exact ⟨0, 0, 0, _, rfl, rfl, rfl, Nat.zero_le _, H0.out⟩
  case round =>
    obtain ⟨raised, told, j, s, rfl, rfl, rfl, hj, H⟩ := hrel
    by_cases hlt : j < l.length
    · obtain ⟨b, off, x, rfl, hbl, hz, x0, x1⟩ := HA.out.at_ H.o.bel hlt
      have b0 : (0 : Int) ≤ (j : Int) := by omega
      have b1 : (j : Int) < (l.length : Int) := by omega
      obtain ⟨kd, n⟩ := x
      simp only at x0 x1
      have hle : s.le 150 := H.l.mono (by omega)
      have HH := Lib.hid (And.intro H hle)
      have HZ := Lib.hid hz
      clear H hz hle
      by_cases k0 : kd = 0
      · subst k0
        have HT := Lib.hid (HH.out.1.o.handle n true)
        go_wp2_with fail
        refine HT.out.mono ?_
        rintro e w4 ⟨rfl, O⟩
        have HN := Lib.hid (HH.out.1.next O (on_h s n HH.out.1.h) (on_c s n i) (T.le_handle (HH.out.1.l.mono (by omega)) n true))
        clear O
        go_wp2_with fail
        go_roundw
        case rel => exact ⟨raised, told, j + 1, _, rfl, rfl, by go_num, by omega, HN.out⟩
        case measure => simp [intOf] <;> omega
      have n0 : (kd == 0) = false := by simpa using k0
      by_cases k1 : kd = 1
      · subst k1
        by_cases hns : n = (i : Int)
        · subst hns
          have HN := Lib.hid (HH.out.1.next HH.out.1.o HH.out.1.h rfl (HH.out.1.l.mono (by omega)))
          go_wp2_with fail
          go_roundw
          case rel => exact ⟨raised, told, j + 1, _, rfl, rfl, by go_num, by omega, HN.out⟩
          case measure => simp [intOf] <;> omega
        · have HT := Lib.hid (HH.out.1.o.handle n false)
          have hne : (n == (i : Int)) = false := by simpa using hns
          have HF := Lib.hid hns
          clear hns
          go_wp2_with fail
          refine HT.out.mono ?_
          rintro e w4 ⟨rfl, O⟩
          have HN := Lib.hid (HH.out.1.next O ((far_handle s HF.out false).1.trans HH.out.1.h) (far_handle s HF.out false).2 (T.le_handle (HH.out.1.l.mono (by omega)) n false))
          clear O
          go_wp2_with fail
          go_roundw
          case rel => exact ⟨raised, told, j + 1, _, rfl, rfl, by go_num, by omega, HN.out⟩
          case measure => simp [intOf] <;> omega
      have n1 : (kd == 1) = false := by simpa using k1
      by_cases k2 : kd = 2
      · subst k2
        have HT := Lib.hid (HH.out.1.o.raise n (HH.out.2.mono (by omega)))
        by_cases hns : n = (i : Int)
        · subst hns
          have hrw : IntKind.i64.wrap ((raised : Int) + 1) = (raised : Int) + 1 := by have := HH.out.1.r; rw [IntKind.wrap_i64]; omega
          go_wp2_with fail
          refine HT.out.mono ?_
          rintro e w4 ⟨rfl, O⟩
          have HN := Lib.hid (show OnI w w.heap.size k i told (raised + 1) (j + 1) (s.rise (i : Int)) w4 from ⟨O, (rise_h s _ i).trans HH.out.1.h, by rw [rise_own s h1 h2 HH.out.1.h]; have := HH.out.1.e; omega, by have := HH.out.1.r; omega, T.le_rise HH.out.1.l _⟩)
          obtain ⟨bl4, -, y1⟩ := HA.out.cells O.bel HZ.out
          clear O
          go_wp2_with fail
          go_roundw
          case rel => exact ⟨raised + 1, told, j + 1, _, by go_num, rfl, by go_num, by omega, HN.out⟩
          case measure => simp [intOf] <;> omega
        · have hne : (n == (i : Int)) = false := by simpa using hns
          have HF := Lib.hid hns
          clear hns
          go_wp2_with fail
          refine HT.out.mono ?_
          rintro e w4 ⟨rfl, O⟩
          have HN := Lib.hid (HH.out.1.next O ((far_rise s HF.out).1.trans HH.out.1.h) (far_rise s HF.out).2 (T.le_rise HH.out.1.l n))
          obtain ⟨bl4, -, y1⟩ := HA.out.cells O.bel HZ.out
          clear O
          go_wp2_with fail
          go_roundw
          case rel => exact ⟨raised, told, j + 1, _, rfl, rfl, by go_num, by omega, HN.out⟩
          case measure => simp [intOf] <;> omega
      have n2 : (kd == 2) = false := by simpa using k2
      by_cases k3 : kd = 3
      · subst k3
        have HT := Lib.hid HH.out.1.o.take
        go_wp2_with fail
        refine HT.out.mono ?_
        rintro e w4 ⟨v, rfl, hrow, O⟩
        obtain ⟨Av, cv, rfl, -, -, hcv⟩ := RowK.own_shows hrow
        obtain ⟨L, hL⟩ : ∃ L, L = s.pend 32 := ⟨_, rfl⟩
        rw [← hL] at hrow hcv ⊢
        have htell : tell L i = s.c i := by rw [hL]; exact tell_pend s 32 (by omega)
        have hLl : L.length ≤ 32 := by rw [hL]; exact T.pend_len s 32
        have H3 := Lib.hid (And.intro O (And.intro hrow (And.intro htell (show told + tell L i ≤ 150 by have := HH.out.1.e; have := HH.out.1.r; omega))))
        clear O hrow hL htell hcv
        go_wp2_with fail
        go_loopw [9, 12] (fun t p wr => ∃ q : Nat, p = .int .i64 (q : Int) ∧ q ≤ L.length ∧ t = .int .i64 ((told + tell (L.take q) i : Nat) : Int) ∧ ∃ nq, wr = w4.drewN nq) (fun _ p _ => L.length - (intOf p).toNat)
        case atStart => exact ⟨0, rfl, Nat.zero_le _, by simp [tell_nil], 0, rfl⟩
        case round =>
          obtain ⟨q, rfl, hq, rfl, nq, rfl⟩ := hrel
          by_cases hql : q < L.length
          · obtain ⟨y, hy⟩ : ∃ y, L[q]? = some y := ⟨_, List.getElem?_eq_getElem hql⟩
            obtain ⟨g, c', e, lg, y0, y1⟩ := rc_at H3.out.2.1 hy
            injection e with e1 e2 e3
            subst e1
            have c0 : (0 : Int) ≤ (q : Int) := by omega
            have c1 : (q : Int) < (L.length : Int) := by omega
            have HE := Lib.hid (tell_take hy i)
            have hle := tell_le L (q + 1) i
            have hmax := H3.out.2.2.2
            by_cases hyi : y.1 = i
            · rw [HE.out, if_pos hyi] at hle
              obtain ⟨t1, ht1⟩ : ∃ t, t = told + tell (L.take q) i := ⟨_, rfl⟩
              have HE2 := Lib.hid (show told + tell (L.take (q + 1)) i = t1 + y.2 by rw [HE.out, if_pos hyi, ht1]; omega)
              have hw : IntKind.i64.wrap ((t1 : Int) + (y.2 : Int)) = (t1 : Int) + (y.2 : Int) := by rw [IntKind.wrap_i64]; omega
              rw [← ht1]
              rw [hyi] at y0
              clear hle hyi ht1 hmax
              go_wp2_with fail
              go_roundw
              case rel => exact ⟨q + 1, by go_num, by omega, by rw [HE2.out]; go_num, nq, rfl⟩
              case measure => simp [intOf] <;> omega
            · have HE2 := Lib.hid (show told + tell (L.take (q + 1)) i = told + tell (L.take q) i by rw [HE.out, if_neg hyi]; rfl)
              have hne : ((y.1 : Int) == (i : Int)) = false := by simp; omega
              obtain ⟨t1, ht1⟩ : ∃ t, t = told + tell (L.take q) i := ⟨_, rfl⟩
              rw [← ht1] at HE2 ⊢
              clear hle hyi ht1 hmax
              go_wp2_with fail
              go_roundw
              case rel => exact ⟨q + 1, by go_num, by omega, by rw [HE2.out], nq, rfl⟩
              case measure => simp [intOf] <;> omega
          · obtain rfl : q = L.length := by omega
            rw [List.take_length]
            have O4 : Ob w.heap.size w (w4.drewN nq) k s.idle := ⟨H3.out.1.a.same rfl, H3.out.1.hk, below_drewN H3.out.1.bel nq⟩
            have HN := Lib.hid (show OnI w w.heap.size k i (told + tell L i) raised (j + 1) s.idle (w4.drewN nq) from ⟨O4, HH.out.1.h, by rw [H3.out.2.2.1]; exact HH.out.1.e, by have := HH.out.1.r; omega, T.le_idle _ _⟩)
            obtain ⟨t1, ht1⟩ : ∃ t, t = told + tell L i := ⟨_, rfl⟩
            rw [← ht1] at HN ⊢
            clear O4 ht1
            go_wp2_with fail
            go_roundw
            case rel => exact ⟨raised, t1, j + 1, _, rfl, rfl, by go_num, by omega, HN.out⟩
            case measure => simp [intOf] <;> omega
      · have n3 : (kd == 3) = false := by simpa using k3
        have HN := Lib.hid (HH.out.1.next HH.out.1.o HH.out.1.h rfl (HH.out.1.l.mono (by omega)))
        go_wp2_with fail
        go_roundw
        case rel => exact ⟨raised, told, j + 1, _, rfl, rfl, by go_num, by omega, HN.out⟩
        case measure => simp [intOf] <;> omega
    · obtain rfl : j = l.length := by omega
      have HH := Lib.hid H
      have HT := Lib.hid (count_any H.o.a (i : Int))
      rw [show s.count (i : Int) = (s.c i : Int) from by unfold T.count; rw [isSig_yes.2 (by omega)]; rfl] at HT
      have he := H.e
      have hr := H.r
      clear H
      obtain ⟨ci, hci⟩ : ∃ ci, ci = s.c i := ⟨_, rfl⟩
      rw [← hci] at he HT
      clear hci
      have hw : IntKind.i64.wrap ((told : Int) + (ci : Int)) = (raised : Int) := by rw [IntKind.wrap_i64]; omega
      go_wp2_with fail
      refine HT.out.mono ?_
      rintro e w4 ⟨rfl, rfl⟩
      go_wp2_with fail
      go_ret
      exact ⟨rfl, HH.out.o.bel⟩

theorem once_no (w : World) (A : Option Addr) (c : Nat) (l : List Cal) (n : Int) (hs : isSig n = false) (hn : l.length ≤ 150) :
    Calls Try.prog 5 #[.slice A l.length c, .int .i64 n] w fun e w' => e = .returned (.bool true) ∧ Below w.heap.size w w' := by
  have hn1 : (l.length : Int) ≤ 150 := by omega
  have HC := Lib.hid (show code n = 100 from by unfold code; rw [hs]; rfl)
  clear hs
  go_enter Try.func5, Try.ntmps5
  go_wp2_with fail
  refine (alive_any w).mono ?_
  rintro e w1 ⟨rfl, hb1⟩
  have HT := Lib.hid (Ob.new (Nat.le_refl _) hb1 hb1.size)
  clear hb1
  go_wp2_with fail
  refine HT.out.mono ?_
  rintro e w2 ⟨rfl, O⟩
  have HT := Lib.hid (O.handle n true)
  clear O
  go_wp2_with fail
  refine HT.out.mono ?_
  rintro e w3 ⟨rfl, O⟩
  rw [HC.out]
  have HT := Lib.hid (O.raise n (fun i => Nat.le_trans (T.le_handle (T.le_new 0) _ true i) (by omega)))
  clear O
  go_wp2_with fail
  refine HT.out.mono ?_
  rintro e w4 ⟨rfl, O⟩
  rw [HC.out]
  have HE := Lib.hid O.bel
  clear O
  go_wp2_with fail
  go_ret
  exact ⟨rfl, HE.out⟩
theorem once_many (w : World) (A : Option Addr) (c : Nat) (l : List Cal) (n : Int) (hn : 150 < l.length) :
    Calls Try.prog 5 #[.slice A l.length c, .int .i64 n] w fun e w' => e = .returned (.bool true) ∧ Below w.heap.size w w' := by
  have hn1 : (150 : Int) < (l.length : Int) := by omega
  go_enter Try.func5, Try.ntmps5
  go_wp2_with fail
  refine (alive_any w).mono ?_
  rintro e w1 ⟨rfl, hb1⟩
  have HE := Lib.hid hb1
  clear hb1
  go_wp2_with fail
  go_ret
  exact ⟨rfl, HE.out⟩
theorem once_law (w : World) (A : Option Addr) (c : Nat) (l : List Cal) (n : Int) (hA : ArgOps w A l) :
    Calls Try.prog 5 #[.slice A l.length c, .int .i64 n] w fun e w' => e = .returned (.bool true) ∧ Below w.heap.size w w' := by
  by_cases hn : l.length ≤ 150
  · cases hs : isSig n with
    | true =>
      obtain ⟨i, rfl, h1, h2⟩ := isSig_nat hs
      exact once_any w A c l i h1 h2 hn hA
    | false => exact once_no w A c l n hs hn
  · exact once_many w A c l n (by omega)
end Go.Proofs.Ytiancgjpjfejdaa
