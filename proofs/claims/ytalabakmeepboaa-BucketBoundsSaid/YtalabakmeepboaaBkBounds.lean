/-
  BucketBounds.
-/
import Derived.Test.YtalabakmeepboaaBkWhen
import Derived.Test.YtalabakmeepboaaBkSum
import Derived.Test.YtalabakmeepboaaCmArg
import Derived.Test.YtalabakmeepboaaCmRowN
namespace Go.Proofs.Ytalabakmeepboaa
open Go.RowKit

def RU : RowK Try.prog Int where
  e := 22
  s := 50
  n := 1
  bytes := 8
  zero := .int .u64 0
  enc := fun z => [.int .u64 z]
  pos := by decide
  by_ := by decide
  len := fun _ => rfl
  one := fun x u hu => by
    simp at hu
    subst hu; rfl
  und := Try.underlying50
  info := by kernel_rfl
  zs := by decide
def RS : RowK Try.prog Int where
  e := 2
  s := 49
  n := 1
  bytes := 8
  zero := .int .i64 0
  enc := fun z => [.int .i64 z]
  pos := by decide
  by_ := by decide
  len := fun _ => rfl
  one := fun x u hu => by
    simp at hu
    subst hu; rfl
  und := Try.underlying49
  info := by kernel_rfl
  zs := by decide

/-- Numbers of a row, behind any draws. -/
theorem rowN {P : Program} {R : RowK P Int} {kd : IntKind} {wr : World} {A : Option Addr} {xs : List Int} (hn : R.n = 1) (he : ∀ z, R.enc z = [.int kd z]) (h : R.shows wr A xs) {i : Nat} {x : Int} (hx : xs[i]? = some x) :
    ∃ g off, A = some ⟨g, off, none⟩ ∧ ∀ q, (wr.drewN q).cell? ⟨g, off + i, none⟩ = some (.int kd x) := by
  obtain ⟨g, off, rfl, _, hl⟩ := h (by have := (List.getElem?_eq_some_iff.1 hx).1; omega)
  refine ⟨g, off, rfl, fun q => ?_⟩
  have := hl i x hx 0 (by omega)
  rw [hn, he] at this
  simp at this
  simpa using this
/-- A bucket, and the two rows that the law fills. -/
structure Rs (B : Nat) (W wr : World) (k : Nat) (s : S) (va vt : Value) (ts ks : List Int) : Prop where
  a : Bk wr k s
  ra : RU.own wr B va ts
  rt : RS.own wr B vt ks
  na : va.ownBlock ≠ some k
  nt : vt.ownBlock ≠ some k
  ne : ∀ i, va.ownBlock = some i → vt.ownBlock ≠ some i
  hk : B ≤ k
  bel : Below B W wr
section
variable {B : Nat} {W wr w1 : World} {k : Nat} {s s' : S} {va vt u : Value} {ts ks : List Int} {x : Int} {o : Obj}
theorem Rs.take (h : Rs B W wr k s va vt ts ks) (p : Psd wr k s' w1) : Rs B W w1 k s' va vt ts ks :=
  ⟨p.1, RowK.own_kept h.ra p.2 (fun i e f => h.na (f ▸ e)), RowK.own_kept h.rt p.2 (fun i e f => h.nt (f ▸ e)), h.na, h.nt, h.ne, h.hk, h.bel.trans (p.bel h.hk h.a.lt)⟩
theorem Rs.appA (h : Rs B W wr k s va vt ts ks) (hg : (wr.alloc o).grownBy w1 va.ownBlock) (O1 : RU.own w1 B u (ts ++ [x])) (ho : u.ownBlock = va.ownBlock ∨ u.ownBlock = some (wr.alloc o).heap.size) : Rs B W w1 k s u vt (ts ++ [x]) ks := by
  have hB : B ≤ wr.heap.size := Nat.le_trans h.hk (Nat.le_of_lt h.a.lt)
  refine ⟨h.a.same (RowK.grown_far hg h.a.lt h.na), O1, RowK.own_same h.rt fun i e => RowK.grown_far hg (RowK.own_lt h.rt e).1 (fun f => h.ne i f e), RowK.own_off ho h.a.lt h.na, h.nt, fun i e f => ?_, h.hk, (h.bel.alloc hB o).grown hg (by simp; omega) fun i e => (RowK.own_lt h.ra e).2⟩
  exact RowK.own_off ho (RowK.own_lt h.rt f).1 (fun g => h.ne i g f) e
theorem Rs.appT (h : Rs B W wr k s va vt ts ks) (hg : (wr.alloc o).grownBy w1 vt.ownBlock) (O1 : RS.own w1 B u (ks ++ [x])) (ho : u.ownBlock = vt.ownBlock ∨ u.ownBlock = some (wr.alloc o).heap.size) : Rs B W w1 k s va u ts (ks ++ [x]) := by
  have hB : B ≤ wr.heap.size := Nat.le_trans h.hk (Nat.le_of_lt h.a.lt)
  refine ⟨h.a.same (RowK.grown_far hg h.a.lt h.nt), RowK.own_same h.ra fun i e => RowK.grown_far hg (RowK.own_lt h.ra e).1 (fun f => h.ne i e f), O1, h.na, RowK.own_off ho h.a.lt h.nt, fun i e f => ?_, h.hk, (h.bel.alloc hB o).grown hg (by simp; omega) fun i e => (RowK.own_lt h.rt e).2⟩
  exact RowK.own_off ho (RowK.own_lt h.ra e).1 (fun g => h.ne i e g) f
theorem Rs.lenA (h : Rs B W wr k s va vt ts ks) (x : Int) (t : TypeId) : RU.own (wr.alloc (.cells (RU.enc x).toArray t)) B va ts := RowK.own_alloc h.ra _
end

section
variable {m e b : Int} {l l2 : List Int} {A A2 : Option Addr} {c c2 : Nat}
theorem bounds_long (w : World) (h : 60 < l.length) :
    Calls Try.prog 5 #[.agg #[.int .i64 m, .int .u64 e, .int .i64 b], .slice A l.length c, .slice A2 l2.length c2] w fun x w' => x = .returned (.bool true) ∧ Below w.heap.size w w' := by
  have h' : (60 : Int) < (l.length : Int) := by omega
  go_enter Try.func5, Try.ntmps5
  go_wp2_with fail
  refine (alive_any _).mono ?_
  rintro x w1 ⟨rfl, hb⟩
  have HB := Lib.hid (end_of hb)
  clear hb
  go_wp2_with fail
  go_ret
  exact ⟨rfl, HB.out⟩
theorem bounds_no (w : World) (h : l.length ≤ 60) (hr : rateB m e b = false) :
    Calls Try.prog 5 #[.agg #[.int .i64 m, .int .u64 e, .int .i64 b], .slice A l.length c, .slice A2 l2.length c2] w fun x w' => x = .returned (.bool true) ∧ Below w.heap.size w w' := by
  have h' : (l.length : Int) ≤ 60 := by omega
  have HN := Lib.hid (fun (w : World) => new_no (now := 0) w hr)
  have HR := Lib.hid (rtc_new w m e b)
  clear hr
  go_enter Try.func5, Try.ntmps5
  go_wp2_with fail
  refine (alive_any _).mono ?_
  rintro x w1 ⟨rfl, hb⟩
  obtain ⟨d0, d1, d2, -⟩ := HR.out.below hb
  have HB := Lib.hid hb
  clear hb
  go_wp2_with fail
  refine (HN.out _).mono ?_
  rintro x w2 ⟨rfl, hb⟩
  have HB := Lib.hid (HB.out.trans (hb.mono HB.out.size))
  clear d0 d1 d2 hb
  go_wp2_with fail
  go_ret
  exact ⟨rfl, end_of HB.out⟩

set_option maxHeartbeats 4000000 in
set_option maxRecDepth 100000 in
theorem bounds_yes (w : World) (h : l.length ≤ 60) (hr : rateB m e b = true) (hA : ArgN .u32 0 4294967295 w A l) (hA2 : ArgN .i64 (-9223372036854775808) 9223372036854775807 w A2 l2) :
    Calls Try.prog 5 #[.agg #[.int .i64 m, .int .u64 e, .int .i64 b], .slice A l.length c, .slice A2 l2.length c2] w fun x w' => x = .returned (.bool true) ∧ Below w.heap.size w w' := by
  have h' : (l.length : Int) ≤ 60 := by omega
  have u0 : U 0 := ⟨by omega, by omega⟩
  have HN := Lib.hid (fun (w : World) => new_yes (now := 0) w hr u0)
  have HR := Lib.hid (rtc_new w m e b)
  have HA := Lib.hid (hA.below ((Below.refl _ w).alloc (Nat.le_refl _) (rtO m e b)))
  have HA2 := Lib.hid (hA2.below ((Below.refl _ w).alloc (Nat.le_refl _) (rtO m e b)))
  have HK0 := Lib.hid (Tk.first hr)
  obtain ⟨r1, r2, r3, r4, r5⟩ := rateB_yes.1 hr
  clear hr hA hA2
  go_enter Try.func5, Try.ntmps5
  go_wp2_with fail
  refine (alive_any _).mono ?_
  rintro x w1 ⟨rfl, hb⟩
  obtain ⟨d0, d1, d2, -⟩ := HR.out.below hb
  have HB := Lib.hid hb
  clear hb
  go_wp2_with fail
  refine (HN.out _).mono ?_
  rintro x w2 hN
  obtain ⟨k, rfl, TT⟩ := Ob.made2 HB.out hN
  have HT := Lib.hid (show Rs (w.alloc (rtO m e b)).heap.size (w.alloc (rtO m e b)) w2 k (S.fresh m e b 0) (.slice none 0 0) (.slice none 0 0) [] [] from ⟨TT.a, RowK.own_nil _ _, RowK.own_nil _ _, (fun e => by cases e), (fun e => by cases e), (fun i e => by cases e), TT.hk, TT.bel⟩)
  clear d0 d1 d2 hN TT
  go_wp2_with fail
  go_loopw [10, 11, 12, 13] (fun t ra rt i wr => ∃ (q : Nat) (t0 : Int) (va vt : Value) (ts ks : List Int) (s : S), i = .int .i64 (q : Int) ∧ t = .int .u64 t0 ∧ va = ra ∧ vt = rt ∧ q ≤ l.length ∧ ts.length = q ∧ t0 ≤ (q : Int) * 1048576 ∧ Rs (w.alloc (rtO m e b)).heap.size (w.alloc (rtO m e b)) wr k s va vt ts ks ∧ Tk m e b s t0 ts ks) (fun _ _ _ i _ => l.length - (intOf i).toNat)
  case atStart => exact ⟨0, 0, _, _, [], [], _, rfl, rfl, rfl, rfl, Nat.zero_le _, rfl, by simp, HT.out, HK0.out⟩
  case round =>
    obtain ⟨q, t0, va, vt, ts, ks, s, rfl, rfl, rfl, rfl, hq, hal, ht1, hR, hK⟩ := hrel
    by_cases hlt : q < l.length
    · obtain ⟨bb, off, g, rfl, hbl, -, ⟨g0, g1⟩, x0⟩ := HA.out.at_ (wr := wr) hR.bel hlt
      have ht0 := hK.now0
      have b0 : (0 : Int) ≤ (q : Int) := by omega
      have b1 : (q : Int) < (l.length : Int) := by omega
      have b2 : (q : Int) ≤ 60 := by omega
      have ht2 : t0 ≤ 62914560 := by omega
      have ut1 : U (t0 + g % 1048576) := ⟨by omega, by omega⟩
      have ht3 : t0 + g % 1048576 ≤ ((q + 1 : Nat) : Int) * 1048576 := by omega
      have hnext := fun n => hK.next (g := g % 1048576) (n := n) (by omega) (by omega)
      have HQ := Lib.hid (And.intro hR (And.intro hal (And.intro hnext (And.intro ht3 hK.len))))
      clear hR hal hK hnext
      by_cases hlt2 : q < l2.length
      · obtain ⟨bb2, off2, n, rfl, hbl2, -, ⟨n0, n1⟩, y0⟩ := HA2.out.at_ (wr := wr) HQ.out.1.bel hlt2
        have b3 : (q : Int) < (l2.length : Int) := by omega
        have HX := take_any HQ.out.1.a ut1 (n := n) ⟨n0, n1⟩
        have HKn := HQ.out.2.2.1 n
        have hx0 := takeN_nn (s.pass (t0 + g % 1048576)) n
        have hx1 := (takeN_le (s.pass (t0 + g % 1048576)) n).2
        obtain ⟨X, hX⟩ : ∃ X, X = takeN (s.pass (t0 + g % 1048576)) n := ⟨_, rfl⟩
        rw [← hX] at HX HKn hx0 hx1
        have HX := Lib.hid HX
        have HKn := Lib.hid HKn
        obtain ⟨M, hM⟩ : ∃ M, M = max 0 (n : Int) := ⟨_, rfl⟩
        rw [← hM] at hx1
        have eM1 : (if (0 : Int) < n then n else 0) = M := by split <;> omega
        have eM2 : (if n < (0 : Int) then 0 else n) = M := by split <;> omega
        have eM3 : max (n : Int) 0 = M := by omega
        have eM4 : max 0 (n : Int) = M := by omega
        clear hX hM
        go_wp2_with fail
        refine HX.out.mono ?_
        rintro x w7 ⟨rfl, hp⟩
        have HP := Lib.hid (HQ.out.1.take hp)
        clear hp
        go_wp2_with (first
          | (at_builtin; refine RowK.append (R := RU) rfl _ _ rfl (w.alloc (rtO m e b)).heap.size va ts [t0 + g % 1048576] rfl (RowK.own_alloc HP.out.ra _) (some ⟨w7.heap.size, 0, none⟩) 1 1 rfl rfl (RowK.new_shows (R := RU) w7 (t0 + g % 1048576) 22) (fun e => by cases e) (by have := HQ.out.2.1; simp; omega) (by have := HP.out.bel.size; simp at *; omega) ?_; intro u1 w8 O1 hg1 ho1; have HP2 := Lib.hid (HP.out.appA hg1 O1 ho1); clear O1 hg1 ho1)
          | (at_builtin; refine RowK.append (R := RS) rfl _ _ rfl (w.alloc (rtO m e b)).heap.size vt ks [X] rfl (RowK.own_alloc HP2.out.rt _) (some ⟨w8.heap.size, 0, none⟩) 1 1 rfl rfl (RowK.new_shows (R := RS) w8 X 2) (fun e => by cases e) (by have := HQ.out.2.1; have := HQ.out.2.2.2.2; simp; omega) (by have := HP2.out.bel.size; simp at *; omega) ?_; intro u2 w9 O2 hg2 ho2; have HP3 := Lib.hid (HP2.out.appT hg2 O2 ho2); clear O2 hg2 ho2))
        go_roundw
        case rel => exact ⟨q + 1, _, u1, u2, _, _, _, by go_num, rfl, rfl, rfl, by omega, by have := HQ.out.2.1; simp; omega, HQ.out.2.2.2.1, HP3.out, HKn.out⟩
        case measure => simp [intOf]; omega
      · have b3 : ¬ (q : Int) < (l2.length : Int) := by omega
        have HX := take_any HQ.out.1.a ut1 (n := 1) ⟨by omega, by omega⟩
        have HKn := HQ.out.2.2.1 1
        have hx0 := takeN_nn (s.pass (t0 + g % 1048576)) 1
        have hx1 := (takeN_le (s.pass (t0 + g % 1048576)) 1).2
        obtain ⟨X, hX⟩ : ∃ X, X = takeN (s.pass (t0 + g % 1048576)) 1 := ⟨_, rfl⟩
        rw [← hX] at HX HKn hx0 hx1
        have HX := Lib.hid HX
        have HKn := Lib.hid HKn
        obtain ⟨M, hM⟩ : ∃ M, M = max 0 (1 : Int) := ⟨_, rfl⟩
        rw [← hM] at hx1
        have eM1 : (if (0 : Int) < 1 then 1 else 0) = M := by split <;> omega
        have eM2 : (if 1 < (0 : Int) then 0 else 1) = M := by split <;> omega
        have eM3 : max (1 : Int) 0 = M := by omega
        have eM4 : max 0 (1 : Int) = M := by omega
        clear hX hM
        go_wp2_with fail
        refine HX.out.mono ?_
        rintro x w7 ⟨rfl, hp⟩
        have HP := Lib.hid (HQ.out.1.take hp)
        clear hp
        go_wp2_with (first
          | (at_builtin; refine RowK.append (R := RU) rfl _ _ rfl (w.alloc (rtO m e b)).heap.size va ts [t0 + g % 1048576] rfl (RowK.own_alloc HP.out.ra _) (some ⟨w7.heap.size, 0, none⟩) 1 1 rfl rfl (RowK.new_shows (R := RU) w7 (t0 + g % 1048576) 22) (fun e => by cases e) (by have := HQ.out.2.1; simp; omega) (by have := HP.out.bel.size; simp at *; omega) ?_; intro u1 w8 O1 hg1 ho1; have HP2 := Lib.hid (HP.out.appA hg1 O1 ho1); clear O1 hg1 ho1)
          | (at_builtin; refine RowK.append (R := RS) rfl _ _ rfl (w.alloc (rtO m e b)).heap.size vt ks [X] rfl (RowK.own_alloc HP2.out.rt _) (some ⟨w8.heap.size, 0, none⟩) 1 1 rfl rfl (RowK.new_shows (R := RS) w8 X 2) (fun e => by cases e) (by have := HQ.out.2.1; have := HQ.out.2.2.2.2; simp; omega) (by have := HP2.out.bel.size; simp at *; omega) ?_; intro u2 w9 O2 hg2 ho2; have HP3 := Lib.hid (HP2.out.appT hg2 O2 ho2); clear O2 hg2 ho2))
        go_roundw
        case rel => exact ⟨q + 1, _, u1, u2, _, _, _, by go_num, rfl, rfl, rfl, by omega, by have := HQ.out.2.1; simp; omega, HQ.out.2.2.2.1, HP3.out, HKn.out⟩
        case measure => simp [intOf]; omega
    · obtain rfl : q = l.length := by omega
      have b1 : ¬ ((l.length : Int) < (l.length : Int)) := by omega
      obtain ⟨Aa, ca, rfl, sa, -, -⟩ := RowK.own_shows hR.ra
      obtain ⟨At, ct, rfl, st, -, -⟩ := RowK.own_shows hR.rt
      have hrt := HR.out.below hR.bel
      have hN : (ts.length : Int) ≤ 60 := by omega
      have hlen : (ks.length : Int) = (ts.length : Int) := by rw [hK.len]
      have HQ := Lib.hid (And.intro hK (And.intro sa (And.intro st (And.intro hlen hR.bel))))
      have HD := Lib.hid (fun q => show RtC (wr.drewN q) w.heap.size m e b from hrt)
      have hlt1 : ts.length < 61 := by omega
      have hks : ks.length = ts.length := hK.len.symm
      have HKs := Lib.hid hks
      have ht2 : t0 ≤ 62914560 := by omega
      clear hR hK sa st hlen hrt ht1 hal hks
      go_wp2_with fail
      go_loopw [16] (fun iv W => ∃ (i qd : Nat), iv = .int .i64 (i : Int) ∧ i ≤ ts.length ∧ W = wr.drewN qd) (fun iv _ => ts.length - (intOf iv).toNat)
      case atStart => exact ⟨0, 0, rfl, Nat.zero_le _, rfl⟩
      case round =>
        obtain ⟨i, qd, rfl, hi, rfl⟩ := hrel
        by_cases hlt2 : i < ts.length
        · have i1 : (i : Int) < (ts.length : Int) := by omega
          have i0 : (0 : Int) ≤ (i : Int) := by omega
          go_wp2_with fail
          go_loopw [17, 18] (fun sv kv W => ∃ (kk qd2 : Nat), sv = .int .i64 (sumF ks i kk) ∧ kv = .int .i64 (kk : Int) ∧ i ≤ kk ∧ kk ≤ ts.length ∧ W = wr.drewN qd2) (fun _ kv _ => ts.length - (intOf kv).toNat)
          case atStart => exact ⟨i, qd, by rw [sumF_self], rfl, Nat.le_refl _, hi, rfl⟩
          case round =>
            obtain ⟨kk, qd2, rfl, rfl, hik, hkk, rfl⟩ := hrel
            by_cases hlt3 : kk < ts.length
            · have k1 : (kk : Int) < (ts.length : Int) := by omega
              have k0 : (0 : Int) ≤ (kk : Int) := by omega
              have hkl : kk < ks.length := by have := HKs.out; omega
              have k2 : (kk : Int) < (ks.length : Int) := by omega
              obtain ⟨x, hx⟩ : ∃ x, ts[i]? = some x := ⟨_, List.getElem?_eq_getElem hlt2⟩
              obtain ⟨y, hy⟩ : ∃ y, ts[kk]? = some y := ⟨_, List.getElem?_eq_getElem hlt3⟩
              obtain ⟨z, hz⟩ : ∃ z, ks[kk]? = some z := ⟨_, List.getElem?_eq_getElem hkl⟩
              have hbd := HQ.out.1.bound hik hx hy
              have hxy := HQ.out.1.mono i kk x y hik hx hy
              have hx0 := (HQ.out.1.rng x (List.mem_of_getElem? hx)).1
              have hy1 := (HQ.out.1.rng y (List.mem_of_getElem? hy)).2
              obtain ⟨z0, z1⟩ := HQ.out.1.tk z (List.mem_of_getElem? hz)
              have hs0 := sumF_nn (fun x hx => (HQ.out.1.tk x hx).1) i kk
              have hs1 := sumF_le (ks := ks) (b := b) (fun x hx => (HQ.out.1.tk x hx).2) i kk (by omega) (by omega)
              have hs2 := mul_up (p := (kk : Int)) (m := b) (P := 60) (M := 2147483647) k0 (by omega) (by omega) r3
              have hsS := sumF_succ hik hz
              obtain ⟨S0, eS0⟩ : ∃ S0, S0 = sumF ks i kk := ⟨_, rfl⟩
              rw [← eS0] at hs0 hs1 hsS ⊢
              rw [hsS] at hbd
              have hD0 := Int.ediv_nonneg (show 0 ≤ y - x by omega) (show 0 ≤ e by omega)
              have hD1 : (y - x) / e ≤ y - x := by
                have := mul_ge hD0 r4
                have := div_lo (x := y - x) r4
                omega
              obtain ⟨D, eD⟩ : ∃ D, D = (y - x) / e := ⟨_, rfl⟩
              rw [← eD] at hbd hD0 hD1
              have hP0 := mul_nn (p := D + 1) (m := m) (by omega) r1
              have hP1 := mul_up (p := D + 1) (m := m) (P := 62914561) (M := 2147483647) (by omega) (by omega) (by omega) (by omega)
              obtain ⟨Q, eQ⟩ : ∃ Q, Q = (D + 1) * m := ⟨_, rfl⟩
              rw [← eQ] at hbd hP0 hP1
              have wS : IntKind.i64.wrap (S0 + z) = S0 + z := by rw [IntKind.wrap_i64]; omega
              have wy : IntKind.u64.wrap (y - x) = y - x := by rw [IntKind.wrap_u64]; omega
              have wD : (y - x) / e = D := eD.symm
              have wD1 : IntKind.i64.wrap ((y - x) / e) = D := by rw [← eD, IntKind.wrap_i64]; omega
              have wD2 : IntKind.i64.wrap D = D := by rw [IntKind.wrap_i64]; omega
              have wQ : (D + 1) * m = Q := eQ.symm
              have wQ1 : IntKind.i64.wrap ((D + 1) * m) = Q := by rw [← eQ, IntKind.wrap_i64]; omega
              have wQ2 : IntKind.i64.wrap (b + Q) = b + Q := by rw [IntKind.wrap_i64]; omega
              obtain ⟨ga, oa, hAa, ca1⟩ := rowN (kd := .u64) rfl (fun _ => rfl) HQ.out.2.1 hx
              obtain ⟨ga', oa', hAa', ca2⟩ := rowN (kd := .u64) rfl (fun _ => rfl) HQ.out.2.1 hy
              obtain ⟨gt, ot, hAt, ct1⟩ := rowN (kd := .i64) rfl (fun _ => rfl) HQ.out.2.2.1 hz
              subst hAa
              obtain ⟨rfl, rfl⟩ : ga = ga' ∧ oa = oa' := by cases hAa'; exact ⟨rfl, rfl⟩
              subst hAt
              have q1 : wr.cell? ⟨ga, oa + i, none⟩ = some (.int .u64 x) := ca1 0
              have q2 : wr.cell? ⟨ga, oa + kk, none⟩ = some (.int .u64 y) := ca2 0
              have q3 : wr.cell? ⟨gt, ot + kk, none⟩ = some (.int .i64 z) := ct1 0
              obtain ⟨p0, p1, p2, -⟩ : RtC wr w.heap.size m e b := HD.out 0
              have HE := Lib.hid (And.intro hsS eS0)
              have h64 : -9223372036854775808 ≤ S0 + z ∧ S0 + z ≤ 9223372036854775807 := by omega
              clear hx hy hz hs1 hs2 hsS eS0 hAa' ca1 ca2 ct1 eD eQ
              go_wp2_with fail
              go_quiet (fail)
              go_wp2_with fail
              refine ⟨⟨kk + 1, qd2 + nq, by rw [HE.out.1], by go_num, by omega, by omega, rfl⟩, by simp [intOf]; omega⟩
            · obtain rfl : kk = ts.length := by omega
              have k1 : ¬ ((ts.length : Int) < (ts.length : Int)) := by omega
              go_wp2_with fail
              go_roundw
              case rel => exact ⟨i + 1, qd2, by go_num, by omega, rfl⟩
              case measure => simp [intOf]; omega
        · obtain rfl : i = ts.length := by omega
          have i1 : ¬ ((ts.length : Int) < (ts.length : Int)) := by omega
          go_wp2_with fail
          go_ret
          exact ⟨rfl, end_of (below_drewN HQ.out.2.2.2.2 _)⟩
theorem bounds_law (w : World) (hA : ArgN .u32 0 4294967295 w A l) (hA2 : ArgN .i64 (-9223372036854775808) 9223372036854775807 w A2 l2) :
    Calls Try.prog 5 #[.agg #[.int .i64 m, .int .u64 e, .int .i64 b], .slice A l.length c, .slice A2 l2.length c2] w fun x w' => x = .returned (.bool true) ∧ Below w.heap.size w w' := by
  by_cases h : l.length ≤ 60
  · cases hr : rateB m e b with
    | true => exact bounds_yes w h hr hA hA2
    | false => exact bounds_no w h hr
  · exact bounds_long w (by omega)
end
end Go.Proofs.Ytalabakmeepboaa
