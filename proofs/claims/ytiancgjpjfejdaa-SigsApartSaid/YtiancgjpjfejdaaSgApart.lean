/-
  SigsApart.
-/
import Derived.Test.YtiancgjpjfejdaaSgTwo
import Derived.Test.YtiancgjpjfejdaaSgTell
import Derived.Deep.CutBlock
namespace Go.Proofs.Ytiancgjpjfejdaa
open Go.RowKit

/-- The last number that is told of a signal. -/
def lst (n : Int) (l : List (Nat × Nat)) : Nat := l.foldl (fun a x => if (x.1 : Int) = n then x.2 else a) 0
theorem lst_nil (n : Int) : lst n [] = 0 := rfl
theorem lst_one (n : Int) (l : List (Nat × Nat)) (x : Nat × Nat) : lst n (l ++ [x]) = if (x.1 : Int) = n then x.2 else lst n l := by simp [lst]
theorem lst_take {l : List (Nat × Nat)} {j : Nat} {x : Nat × Nat} (h : l[j]? = some x) (n : Int) : lst n (l.take (j + 1)) = if (x.1 : Int) = n then x.2 else lst n (l.take j) := by
  rw [List.take_add_one, h]
  exact lst_one n _ x
theorem lst_pend (s : T) (n : Int) : ∀ k, lst n (s.pend k) = if 0 ≤ n ∧ n < k then s.c n.toNat else 0
  | 0 => by rw [if_neg (by omega)]; rfl
  | k + 1 => by
    have ih := lst_pend s n k
    rw [T.pend_succ]
    split
    · rename_i h0
      rw [ih]
      by_cases hn : n = (k : Int)
      · rw [if_neg (by omega), if_pos (by omega), show n.toNat = k by omega, h0]
      · by_cases h2 : 0 ≤ n ∧ n < k
        · rw [if_pos h2, if_pos (by omega)]
        · rw [if_neg h2, if_neg (by omega)]
    · rw [lst_one, ih]
      by_cases hn : n = (k : Int)
      · rw [if_pos hn.symm, if_pos (by omega), show n.toNat = k by omega]
      · rw [if_neg (fun e => hn e.symm)]
        by_cases h2 : 0 ≤ n ∧ n < k
        · rw [if_pos h2, if_pos (by omega)]
        · rw [if_neg h2, if_neg (by omega)]

/-- Place 0 is never pending. -/
theorem zero_handle {s : T} (h : s.c 0 = 0) (n : Int) (on : Bool) : (s.handle n on).c 0 = 0 := by
  by_cases e : n = ((0 : Nat) : Int)
  · subst e
    unfold T.handle
    rw [isSig_no.2 (by omega)]
    exact h
  · rw [(far_handle (i := 0) s e on).2]; exact h
theorem zero_rise {s : T} (h : s.c 0 = 0) (n : Int) : (s.rise n).c 0 = 0 := by
  by_cases e : n = ((0 : Nat) : Int)
  · subst e
    unfold T.rise
    rw [isSig_no.2 (by omega)]
    exact h
  · rw [(far_rise (i := 0) s e).2]; exact h
theorem lst_count {s : T} (h : s.c 0 = 0) (n : Int) : ((lst n (s.pend 32) : Nat) : Int) = s.count n := by
  rw [lst_pend]
  unfold T.count
  cases hs : isSig n with
  | true =>
    have := isSig_yes.1 hs
    rw [if_pos (by omega)]; rfl
  | false =>
    rcases isSig_no.1 hs with h1 | h1
    · by_cases h0 : n = 0
      · subst h0
        simp [h]
      · rw [if_neg (by omega)]; rfl
    · rw [if_neg (by omega)]; rfl

/-- u says of one signal what s does, and of no other one anything. -/
structure Ap (n : Int) (s u : T) : Prop where
  eqv : ∀ i : Nat, (i : Int) = n → isSig n = true → s.h i = u.h i ∧ s.c i = u.c i
  far : ∀ j : Nat, ((j : Int) ≠ n ∨ isSig n = false) → u.h j = false ∧ u.c j = 0
  z : s.c 0 = 0
section
variable {n m : Int} {s u : T}
theorem Ap.new (n : Int) : Ap n T.new T.new := ⟨fun _ _ _ => ⟨rfl, rfl⟩, fun _ _ => ⟨rfl, rfl⟩, rfl⟩
theorem Ap.zu (H : Ap n s u) : u.c 0 = 0 := by
  by_cases h : n = ((0 : Nat) : Int)
  · subst h
    exact (H.far 0 (.inr (isSig_no.2 (by omega)))).2
  · exact (H.far 0 (.inl (fun e => h e.symm))).2
theorem Ap.has (H : Ap n s u) : s.has n = u.has n := by
  unfold T.has
  cases h : isSig n with
  | true => rw [(H.eqv n.toNat (by have := isSig_yes.1 h; omega) h).1]
  | false => rfl
theorem Ap.count (H : Ap n s u) : s.count n = u.count n := by
  unfold T.count
  cases h : isSig n with
  | true => rw [(H.eqv n.toNat (by have := isSig_yes.1 h; omega) h).2]
  | false => rfl
theorem Ap.only (H : Ap n s u) {x : Nat × Nat} (hx : x ∈ u.pend 32) : (x.1 : Int) = n := by
  obtain ⟨_, h2, h3⟩ := pend_mem hx
  by_cases h : (x.1 : Int) = n
  · exact h
  · have := (H.far x.1 (.inl h)).2
    omega
theorem Ap.idle (H : Ap n s u) : Ap n s.idle u.idle := ⟨fun i h h2 => ⟨(H.eqv i h h2).1, rfl⟩, fun j h => ⟨(H.far j h).1, rfl⟩, rfl⟩
theorem Ap.handle_far (H : Ap n s u) (hm : m ≠ n) (on : Bool) : Ap n (s.handle m on) u :=
  ⟨fun i h h2 => by
    have := far_handle (i := i) s (by omega : m ≠ (i : Int)) on
    rw [this.1, this.2]
    exact H.eqv i h h2, H.far, zero_handle H.z m on⟩
theorem Ap.rise_far (H : Ap n s u) (hm : m ≠ n) : Ap n (s.rise m) u :=
  ⟨fun i h h2 => by
    have := far_rise (i := i) s (by omega : m ≠ (i : Int))
    rw [this.1, this.2]
    exact H.eqv i h h2, H.far, zero_rise H.z m⟩
theorem Ap.handle_own (H : Ap n s u) (on : Bool) : Ap n (s.handle n on) (u.handle n on) := by
  refine ⟨fun i h h2 => ?_, fun j h => ?_, zero_handle H.z n on⟩
  · obtain ⟨e1, e2⟩ := H.eqv i h h2
    have en : n.toNat = i := by omega
    unfold T.handle
    rw [h2, en]
    refine ⟨(upd_same _ _ _).trans (upd_same _ _ _).symm, ?_⟩
    cases on
    · exact (upd_same _ _ _).trans (upd_same _ _ _).symm
    · exact e2
  · rcases h with h | h
    · have := far_handle (i := j) u (fun e => h e.symm) on
      rw [this.1, this.2]
      exact H.far j (.inl h)
    · unfold T.handle
      rw [h]
      exact H.far j (.inr h)
theorem Ap.rise_own (H : Ap n s u) : Ap n (s.rise n) (u.rise n) := by
  refine ⟨fun i h h2 => ?_, fun j h => ?_, zero_rise H.z n⟩
  · obtain ⟨e1, e2⟩ := H.eqv i h h2
    have en : n.toNat = i := by omega
    unfold T.rise
    rw [h2, en]
    show (s.raise i).h i = (u.raise i).h i ∧ (s.raise i).c i = (u.raise i).c i
    unfold T.raise
    rw [← e1]
    cases hh : s.h i with
    | true =>
      refine ⟨e1, ?_⟩
      show upd s.c i (s.c i + 1) i = upd u.c i (u.c i + 1) i
      rw [upd_same, upd_same, e2]
    | false => exact ⟨e1, e2⟩
  · rcases h with h | h
    · have := far_rise (i := j) u (fun e => h e.symm)
      rw [this.1, this.2]
      exact H.far j (.inl h)
    · unfold T.rise
      rw [h]
      exact H.far j (.inr h)
end

/-- Behind the calls of a round: both tables, and what was taken of each. -/
structure ApI (w W : World) (k q : Nat) (n : Int) (j : Nat) (s u : T) : Prop where
  o : Tw w.heap.size w W k s q u
  a : Ap n s u
  ls : s.le j
  lu : u.le j
def ApMid (w W : World) (k q : Nat) (n : Int) (j : Nat) (va vb : Value) : Prop :=
  ∃ s u La Lb Ba Bb, ApI w W k q n j s u ∧ RC.own W Ba va La ∧ RC.own W Bb vb Lb ∧ lst n La = lst n Lb ∧ (∀ x ∈ Lb, (x.1 : Int) = n) ∧ La.length ≤ 32 ∧ Lb.length ≤ 32
theorem apMid_nil {w W : World} {k q j : Nat} {n : Int} {s u : T} (H : ApI w W k q n j s u) : ApMid w W k q n j (.slice none 0 0) (.slice none 0 0) :=
  ⟨s, u, [], [], 0, 0, H, RowK.own_nil _ _, RowK.own_nil _ _, rfl, fun x hx => by simp at hx, by simp, by simp⟩

set_option maxRecDepth 100000 in
set_option maxHeartbeats 8000000 in
theorem apart_any (w : World) (A : Option Addr) (c : Nat) (l : List Cal) (n : Int) (hn : l.length ≤ 150) (hA : ArgOps w A l) :
    Calls Try.prog 6 #[.slice A l.length c, .int .i64 n] w fun e w' => e = .returned (.bool true) ∧ Below w.heap.size w w' := by
  have HA := Lib.hid hA
  clear hA
  have hn1 : (l.length : Int) ≤ 150 := by omega
  go_enter Try.func6, Try.ntmps6
  go_wp2_with fail
  refine (alive_any w).mono ?_
  rintro e w1 ⟨rfl, hb1⟩
  have HT := Lib.hid (Ob.new (Nat.le_refl _) hb1 hb1.size)
  clear hb1
  go_wp2_with fail
  refine HT.out.mono ?_
  rintro e w2 ⟨rfl, O⟩
  obtain ⟨k, hk⟩ : ∃ k, k = w1.heap.size := ⟨_, rfl⟩
  rw [← hk] at O ⊢
  clear hk
  have HO := Lib.hid O
  clear O
  go_wp2_with fail
  refine (new_any w2).mono ?_
  rintro e w3 ⟨rfl, hT, kT⟩
  have O := Tw.of HO.out hT (kT.below (fun _ e => e.elim) (Nat.le_refl _))
  obtain ⟨q, hq⟩ : ∃ q, q = w2.heap.size := ⟨_, rfl⟩
  rw [← hq] at O ⊢
  have H0 := Lib.hid (show ApI w w3 k q n 0 T.new T.new from ⟨O, Ap.new n, T.le_new 0, T.le_new 0⟩)
  clear O hT kT hq
  go_wp2_with fail
  go_loopw [8] (fun p wr => ∃ (j : Nat) (s u : T), p = .int .i64 (j : Int) ∧ j ≤ l.length ∧ ApI w wr k q n j s u) (fun p _ => l.length - (intOf p).toNat)
  case atStart => exact ⟨0, _, _, rfl, Nat.zero_le _, H0.out⟩
  case round =>
    obtain ⟨j, s, u, rfl, hj, H⟩ := hrel
    by_cases hlt : j < l.length
    · obtain ⟨b, off, x, rfl, hbl, hz, x0, x1⟩ := HA.out.at_ H.o.bel hlt
      have b0 : (0 : Int) ≤ (j : Int) := by omega
      have b1 : (j : Int) < (l.length : Int) := by omega
      obtain ⟨kd, m⟩ := x
      simp only at x0 x1
      have HZ := Lib.hid hz
      have HH := Lib.hid H
      clear H hz
      go_upto_block 2 with fail
      go_cut [9, 10] (fun va vb wx => ApMid w wx k q n (j + 1) va vb)
      case first =>
        by_cases k0 : kd = 0
        · subst k0
          have HT := Lib.hid (HH.out.o.handle m true)
          by_cases hmn : m = n
          · subst hmn
            go_wp2_with fail
            refine HT.out.mono ?_
            rintro e w4 ⟨rfl, O⟩
            obtain ⟨bl4, y0, -⟩ := HA.out.cells O.bel HZ.out
            have HT2 := Lib.hid (O.swap.handle m true)
            simp only at y0
            clear O x0 x1
            go_wp2_with fail
            refine HT2.out.mono ?_
            rintro e w5 ⟨rfl, O⟩
            have HN := Lib.hid (apMid_nil (show ApI w w5 k q m (j + 1) _ _ from ⟨O.swap, HH.out.a.handle_own true, T.le_handle (HH.out.ls.mono (by omega)) m true, T.le_handle (HH.out.lu.mono (by omega)) m true⟩))
            clear O
            go_wp2_with fail
            go_meet
            case rel => exact HN.out
          · have hne : (m == n) = false := by simpa using hmn
            have HF := Lib.hid hmn
            clear hmn
            go_wp2_with fail
            refine HT.out.mono ?_
            rintro e w4 ⟨rfl, O⟩
            have HN := Lib.hid (apMid_nil (show ApI w w4 k q n (j + 1) _ _ from ⟨O, HH.out.a.handle_far HF.out true, T.le_handle (HH.out.ls.mono (by omega)) m true, HH.out.lu.mono (by omega)⟩))
            clear O
            go_wp2_with fail
            go_meet
            case rel => exact HN.out
        have n0 : (kd == 0) = false := by simpa using k0
        by_cases k1 : kd = 1
        · subst k1
          have HT := Lib.hid (HH.out.o.handle m false)
          by_cases hmn : m = n
          · subst hmn
            go_wp2_with fail
            refine HT.out.mono ?_
            rintro e w4 ⟨rfl, O⟩
            obtain ⟨bl4, y0, -⟩ := HA.out.cells O.bel HZ.out
            have HT2 := Lib.hid (O.swap.handle m false)
            simp only at y0
            clear O x0 x1
            go_wp2_with fail
            refine HT2.out.mono ?_
            rintro e w5 ⟨rfl, O⟩
            have HN := Lib.hid (apMid_nil (show ApI w w5 k q m (j + 1) _ _ from ⟨O.swap, HH.out.a.handle_own false, T.le_handle (HH.out.ls.mono (by omega)) m false, T.le_handle (HH.out.lu.mono (by omega)) m false⟩))
            clear O
            go_wp2_with fail
            go_meet
            case rel => exact HN.out
          · have hne : (m == n) = false := by simpa using hmn
            have HF := Lib.hid hmn
            clear hmn
            go_wp2_with fail
            refine HT.out.mono ?_
            rintro e w4 ⟨rfl, O⟩
            have HN := Lib.hid (apMid_nil (show ApI w w4 k q n (j + 1) _ _ from ⟨O, HH.out.a.handle_far HF.out false, T.le_handle (HH.out.ls.mono (by omega)) m false, HH.out.lu.mono (by omega)⟩))
            clear O
            go_wp2_with fail
            go_meet
            case rel => exact HN.out
        have n1 : (kd == 1) = false := by simpa using k1
        by_cases k2 : kd = 2
        · subst k2
          have HT := Lib.hid (HH.out.o.raise m (HH.out.ls.mono (by omega)))
          by_cases hmn : m = n
          · subst hmn
            go_wp2_with fail
            refine HT.out.mono ?_
            rintro e w4 ⟨rfl, O⟩
            have HT2 := Lib.hid (O.swap.raise m (HH.out.lu.mono (by omega)))
            clear O x0 x1
            go_wp2_with fail
            refine HT2.out.mono ?_
            rintro e w5 ⟨rfl, O⟩
            have HN := Lib.hid (apMid_nil (show ApI w w5 k q m (j + 1) _ _ from ⟨O.swap, HH.out.a.rise_own, T.le_rise HH.out.ls m, T.le_rise HH.out.lu m⟩))
            clear O
            go_wp2_with fail
            go_meet
            case rel => exact HN.out
          · have hne : (m == n) = false := by simpa using hmn
            have HF := Lib.hid hmn
            clear hmn
            go_wp2_with fail
            refine HT.out.mono ?_
            rintro e w4 ⟨rfl, O⟩
            have HN := Lib.hid (apMid_nil (show ApI w w4 k q n (j + 1) _ _ from ⟨O, HH.out.a.rise_far HF.out, T.le_rise HH.out.ls m, HH.out.lu.mono (by omega)⟩))
            clear O
            go_wp2_with fail
            go_meet
            case rel => exact HN.out
        have n2 : (kd == 2) = false := by simpa using k2
        by_cases k3 : kd = 3
        · subst k3
          have HT := Lib.hid HH.out.o.take
          clear x0 x1
          go_wp2_with fail
          refine HT.out.mono ?_
          rintro e w4 ⟨va, rfl, ra, O, -⟩
          have HT2 := Lib.hid O.swap.take
          have HR := Lib.hid ra
          clear O ra
          go_wp2_with fail
          refine HT2.out.mono ?_
          rintro e w5 ⟨vb, rfl, rb, O, kq⟩
          have HN := Lib.hid (show ApMid w w5 k q n (j + 1) va vb from ⟨_, _, s.pend 32, u.pend 32, _, _, ⟨O.swap, HH.out.a.idle, T.le_idle _ _, T.le_idle _ _⟩, RowK.own_kept HR.out kq (fun i e => by have := (RowK.own_lt HR.out e).2; have := HH.out.o.b.lt; omega), rb, by
            have h1 := lst_count HH.out.a.z n
            have h2 := lst_count HH.out.a.zu n
            have h3 := HH.out.a.count
            omega, fun x hx => HH.out.a.only hx, T.pend_len _ _, T.pend_len _ _⟩)
          clear O rb kq
          go_wp2_with fail
          go_meet
          case rel => exact HN.out
        · have n3 : (kd == 3) = false := by simpa using k3
          have HN := Lib.hid (apMid_nil (show ApI w wr k q n (j + 1) _ _ from ⟨HH.out.o, HH.out.a, HH.out.ls.mono (by omega), HH.out.lu.mono (by omega)⟩))
          go_wp2_with fail
          go_meet
          case rel => exact HN.out
      case rest =>
        obtain ⟨s', u', La, Lb, Ba, Bb, H, ra, rb, hlst, hon, la, lb⟩ := hcut
        obtain ⟨Aa, ca, rfl, -, -, -⟩ := RowK.own_shows ra
        obtain ⟨Ab, cb, rfl, -, -, -⟩ := RowK.own_shows rb
        have HM := Lib.hid (And.intro H (And.intro ra (And.intro rb (And.intro hlst hon))))
        clear H ra rb hlst hon x0 x1 HH HZ
        go_wp2_with fail
        go_loopw [12, 13] (fun t p wr => ∃ (a : Nat) (nq : Nat), p = .int .i64 (a : Int) ∧ a ≤ La.length ∧ t = .int .i64 ((lst n (La.take a) : Nat) : Int) ∧ wr = wc.drewN nq) (fun _ p _ => La.length - (intOf p).toNat)
        case atStart => exact ⟨0, 0, rfl, Nat.zero_le _, by simp [lst], rfl⟩
        case round =>
          obtain ⟨a, nq, rfl, ha, rfl, rfl⟩ := hrel
          by_cases hal : a < La.length
          · obtain ⟨y, hy⟩ : ∃ y, La[a]? = some y := ⟨_, List.getElem?_eq_getElem hal⟩
            obtain ⟨g, c', e, lg, y0, y1⟩ := rc_at HM.out.2.1 hy
            injection e with e1 e2 e3
            subst e1
            clear e2 e3
            have c0 : (0 : Int) ≤ (a : Int) := by omega
            have c1 : (a : Int) < (La.length : Int) := by omega
            have hst := lst_take hy n
            obtain ⟨ys, yn⟩ := y
            simp only at y0 y1 hst
            by_cases hyn : (ys : Int) = n
            · have HS := Lib.hid (show lst n (La.take (a + 1)) = yn by rw [hst, if_pos hyn])
              rw [hyn] at y0
              clear hst hyn hy
              go_wp2_with fail
              go_roundw
              case rel => exact ⟨a + 1, nq, by go_num, by omega, by rw [HS.out], rfl⟩
              case measure => simp [intOf] <;> omega
            · have HS := Lib.hid (show lst n (La.take (a + 1)) = lst n (La.take a) by rw [hst, if_neg hyn])
              have hne : ((ys : Int) == n) = false := by simpa using hyn
              clear hst hyn hy
              go_wp2_with fail
              go_roundw
              case rel => exact ⟨a + 1, nq, by go_num, by omega, by rw [HS.out], rfl⟩
              case measure => simp [intOf] <;> omega
          · obtain rfl : a = La.length := by omega
            rw [List.take_length]
            go_wp2_with fail
            go_loopw [14, 15] (fun t p wr => ∃ (a : Nat) (mq : Nat), p = .int .i64 (a : Int) ∧ a ≤ Lb.length ∧ t = .int .i64 ((lst n (Lb.take a) : Nat) : Int) ∧ wr = wc.drewN mq) (fun _ p _ => Lb.length - (intOf p).toNat)
            case atStart => exact ⟨0, nq, rfl, Nat.zero_le _, by simp [lst], rfl⟩
            case round =>
              obtain ⟨a, mq, rfl, ha, rfl, rfl⟩ := hrel
              by_cases hal : a < Lb.length
              · obtain ⟨y, hy⟩ : ∃ y, Lb[a]? = some y := ⟨_, List.getElem?_eq_getElem hal⟩
                obtain ⟨g, c', e, lg, y0, y1⟩ := rc_at HM.out.2.2.1 hy
                injection e with e1 e2 e3
                subst e1
                clear e2 e3
                have c0 : (0 : Int) ≤ (a : Int) := by omega
                have c1 : (a : Int) < (Lb.length : Int) := by omega
                have hst := lst_take hy n
                have hyn := HM.out.2.2.2.2 y (List.mem_of_getElem? hy)
                rw [if_pos hyn] at hst
                obtain ⟨ys, yn⟩ := y
                simp only at y0 y1 hst hyn
                rw [hyn] at y0
                have HS := Lib.hid hst
                clear hst hyn hy
                go_wp2_with fail
                go_roundw
                case rel => exact ⟨a + 1, mq, by go_num, by omega, by rw [HS.out], rfl⟩
                case measure => simp [intOf] <;> omega
              · obtain rfl : a = Lb.length := by omega
                rw [List.take_length, HM.out.2.2.2.1]
                have O := HM.out.1.o.drewN mq
                have HT1 := Lib.hid (handled_any O.a n)
                have HT2 := Lib.hid (handled_any O.b n)
                have HT3 := Lib.hid (count_any O.a n)
                have HT4 := Lib.hid (count_any O.b n)
                have e1 := HM.out.1.a.has
                have e2 := HM.out.1.a.count
                rw [e1] at HT1
                rw [e2] at HT3
                have HN := Lib.hid (show ApI w (wc.drewN mq) k q n (j + 1) s' u' from ⟨O, HM.out.1.a, HM.out.1.ls, HM.out.1.lu⟩)
                clear O e1 e2
                go_wp2_with fail
                refine HT1.out.mono ?_
                rintro e w6 ⟨rfl, rfl⟩
                go_wp2_with fail
                refine HT2.out.mono ?_
                rintro e w7 ⟨rfl, rfl⟩
                go_wp2_with fail
                refine HT3.out.mono ?_
                rintro e w8 ⟨rfl, rfl⟩
                go_wp2_with fail
                refine HT4.out.mono ?_
                rintro e w9 ⟨rfl, rfl⟩
                go_wp2_with fail
                go_roundw
                case rel => exact ⟨j + 1, _, _, by go_num, by omega, HN.out⟩
                case measure => simp [intOf] <;> omega
    · obtain rfl : j = l.length := by omega
      have HE := Lib.hid H.o.bel
      clear H
      go_wp2_with fail
      go_ret
      exact ⟨rfl, HE.out⟩
set_option maxRecDepth 100000 in
theorem apart_law (w : World) (A : Option Addr) (c : Nat) (l : List Cal) (n : Int) (hA : ArgOps w A l) :
    Calls Try.prog 6 #[.slice A l.length c, .int .i64 n] w fun e w' => e = .returned (.bool true) ∧ Below w.heap.size w w' := by
  by_cases hn : l.length ≤ 150
  · exact apart_any w A c l n hn hA
  · have hn1 : (150 : Int) < (l.length : Int) := by omega
    clear hA hn
    go_enter Try.func6, Try.ntmps6
    go_wp2_with fail
    refine (alive_any w).mono ?_
    rintro e w1 ⟨rfl, hb1⟩
    have HE := Lib.hid hb1
    clear hb1
    go_wp2_with fail
    go_ret
    exact ⟨rfl, HE.out⟩
end Go.Proofs.Ytiancgjpjfejdaa
