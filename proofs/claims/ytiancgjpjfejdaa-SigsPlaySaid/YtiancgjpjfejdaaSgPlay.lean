/-
  SigsPlay.
-/
import Derived.Test.YtiancgjpjfejdaaSgPl
import Derived.Deep.CutBlock
namespace Go.Proofs.Ytiancgjpjfejdaa
open Go.RowKit

def PlI (w W : World) (r j : Nat) (vt : Value) : Prop := ∃ k vh vr s H L, vt = .pointer (some ⟨k, 0, none⟩) ∧ PS w W k r vh vr s H L j
theorem sum_take {l : List (Nat × Nat)} {j : Nat} {x : Nat × Nat} (h : l[j]? = some x) : sum2 (l.take (j + 1)) = sum2 (l.take j) + x.2 := by
  rw [List.take_add_one, h, sum2_append]
  show _ + sum2 [x] = _
  rw [sum2_one]
theorem list_split (s : T) {i : Nat} (hi : i < 32) (hc : s.h i = true) : (s.list 32)[(s.list i).length]? = some i := by
  have h : ∀ j, ∃ R, s.list (i + 1 + j) = s.list (i + 1) ++ R := fun j => by
    induction j with
    | zero => exact ⟨[], by simp⟩
    | succ j ih =>
      obtain ⟨R, hR⟩ := ih
      rw [← Nat.add_assoc, T.list_succ]
      split
      · exact ⟨R ++ [i + 1 + j], by rw [hR, List.append_assoc]⟩
      · exact ⟨R, hR⟩
  obtain ⟨R, hR⟩ := h (31 - i)
  have e1 : s.list (i + 1) = s.list i ++ [i] := by rw [T.list_succ, hc]; rfl
  rw [show i + 1 + (31 - i) = 32 by omega, e1] at hR
  rw [hR]
  simp
theorem same_quiet {P : Program} {f : FuncId} {args : Array Value} {w : World} {v : Ending} (h : Calls P f args w fun e w' => e = v ∧ w = w') : Calls P f args w fun e w' => e = v ∧ w' = w := h.mono fun _ _ ⟨a, b⟩ => ⟨a, b.symm⟩

set_option maxRecDepth 100000 in
set_option maxHeartbeats 16000000 in
theorem play_any (w : World) (A : Option Addr) (c : Nat) (l : List Cal) (hn : l.length ≤ 150) (hA : ArgOps w A l) :
    Calls Try.prog 3 #[.slice A l.length c] w fun e w' => e = .returned (.bool true) ∧ Below w.heap.size w w' := by
  have HA := Lib.hid hA
  clear hA
  have hn1 : (l.length : Int) ≤ 150 := by omega
  go_enter Try.func3, Try.ntmps3
  go_wp2_with fail
  refine (new_any w).mono ?_
  rintro e w1 ⟨rfl, hT, kT⟩
  obtain ⟨r, hr⟩ : ∃ r, r = w1.heap.size := ⟨_, rfl⟩
  have hsz := hT.lt
  have bT : Below w.heap.size w w1 := kT.below (fun _ e => e.elim) (Nat.le_refl _)
  have H0 := Lib.hid (show PlI w (w1.alloc (.cells #[.slice none 0 0, .slice none 0 0] 27)) r 0 (.pointer (some ⟨w.heap.size, 0, none⟩)) from
    ⟨_, _, _, _, [], [], rfl, ⟨hT.alloc _, by
        rw [hr]
        exact ⟨Blk.new _ _ _, RowK.own_nil _ _, RowK.own_nil _ _, (fun e => by cases e), (fun e => by cases e), (fun _ e => by cases e), by omega⟩,
      (fun h => by
        rcases h with h | h | h
        · omega
        · cases h
        · cases h), Nat.le_refl _, bT.alloc bT.size _⟩, Rel.new, by simp, by simp⟩)
  have HRr := Lib.hid hr
  clear hT kT bT hsz hr
  go_wp2_with fail
  rw [← HRr.out]
  go_loopw [3, 5] (fun vt p wr => ∃ j : Nat, p = .int .i64 (j : Int) ∧ j ≤ l.length ∧ PlI w wr r j vt) (fun _ p _ => l.length - (intOf p).toNat)
  case atStart => exact ⟨0, rfl, Nat.zero_le _, H0.out⟩
  case round =>
    obtain ⟨j, rfl, hj, k, vh, vr, s, H, L, rfl, P⟩ := hrel
    by_cases hlt : j < l.length
    · obtain ⟨b, off, x, rfl, hbl, hz, x0, x1⟩ := HA.out.at_ P.b.bel hlt
      have b0 : (0 : Int) ≤ (j : Int) := by omega
      have b1 : (j : Int) < (l.length : Int) := by omega
      obtain ⟨kd, m⟩ := x
      simp only at x0 x1
      have HP := Lib.hid (And.intro P hz)
      clear P hz
      go_upto_block 2 with fail
      go_cut [3] (fun vt wx => PlI w wx r (j + 1) vt)
      case first =>
        by_cases k0 : kd = 0
        · subst k0
          have HT := Lib.hid (HP.out.1.handle (by omega) m true)
          go_wp2_with fail
          refine HT.out.mono ?_
          rintro e w3 ⟨rfl, HT2⟩
          have HT2 := Lib.hid HT2
          go_wp2_with fail
          refine HT2.out.mono ?_
          rintro e w4 ⟨rfl, vh', vr', s', H', L', Q⟩
          have HN := Lib.hid (show PlI w w4 r (j + 1) (.pointer (some ⟨k, 0, none⟩)) from ⟨_, _, _, _, _, _, rfl, Q⟩)
          clear Q
          go_wp2_with fail
          go_meet
          case rel => exact HN.out
        have n0 : (kd == 0) = false := by simpa using k0
        by_cases k1 : kd = 1
        · subst k1
          have HT := Lib.hid (HP.out.1.handle (by omega) m false)
          go_wp2_with fail
          refine HT.out.mono ?_
          rintro e w3 ⟨rfl, HT2⟩
          have HT2 := Lib.hid HT2
          go_wp2_with fail
          refine HT2.out.mono ?_
          rintro e w4 ⟨rfl, vh', vr', s', H', L', Q⟩
          have HN := Lib.hid (show PlI w w4 r (j + 1) (.pointer (some ⟨k, 0, none⟩)) from ⟨_, _, _, _, _, _, rfl, Q⟩)
          clear Q
          go_wp2_with fail
          go_meet
          case rel => exact HN.out
        have n1 : (kd == 1) = false := by simpa using k1
        by_cases k2 : kd = 2
        · subst k2
          have HT := Lib.hid (HP.out.1.raise (by omega) m)
          go_wp2_with fail
          refine HT.out.mono ?_
          rintro e w3 ⟨rfl, HT2⟩
          have HT2 := Lib.hid HT2
          go_wp2_with fail
          refine HT2.out.mono ?_
          rintro e w4 ⟨rfl, vh', vr', s', H', L', Q⟩
          have HN := Lib.hid (show PlI w w4 r (j + 1) (.pointer (some ⟨k, 0, none⟩)) from ⟨_, _, _, _, _, _, rfl, Q⟩)
          clear Q
          go_wp2_with fail
          go_meet
          case rel => exact HN.out
        have n2 : (kd == 2) = false := by simpa using k2
        by_cases k3 : kd = 3
        · subst k3
          have HT := Lib.hid (take_any HP.out.1.b.a)
          go_wp2_with fail
          refine HT.out.mono ?_
          rintro e w4 ⟨v, rfl, hrow, t4, q4⟩
          obtain ⟨Av, cv, rfl, -, -, -⟩ := RowK.own_shows hrow
          obtain ⟨P, hP⟩ : ∃ P, P = s.pend 32 := ⟨_, rfl⟩
          obtain ⟨B3, hB3⟩ : ∃ B3, B3 = wr.heap.size := ⟨_, rfl⟩
          rw [← hP, ← hB3] at hrow
          rw [← hP]
          have hl32 : P.length ≤ 32 := by rw [hP]; exact T.pend_len s 32
          have hLl : L.length ≤ 150 := by have := HP.out.1.ll; omega
          have hsum : sum2 P = L.length := by rw [hP]; exact HP.out.1.rel.sum
          have hrise : ∀ p x y, P[p]? = some x → P[p + 1]? = some y → x.1 < y.1 := fun p x y hx hy => by
            rw [hP] at hx hy
            exact pend_rise s 32 hx hy (by omega)
          have hpos : ∀ x ∈ P, 1 ≤ x.2 ∧ x.2 = cntI L (x.1 : Int) := fun x hx => by
            rw [hP] at hx
            obtain ⟨_, h2, h3⟩ := pend_mem hx
            exact ⟨h3, by rw [h2]; exact HP.out.1.rel.c x.1⟩
          have H3 := Lib.hid (And.intro (HP.out.1.b.mine t4 q4) hrow)
          have HF := Lib.hid (And.intro hsum (And.intro hrise (And.intro hpos hl32)))
          clear hrow t4 q4 hP hB3 hsum hrise hpos x0 x1
          go_wp2_with fail
          go_loopw [9, 10] (fun t p wq => ∃ a : Nat, p = .int .i64 (a : Int) ∧ a ≤ P.length ∧ t = .int .i64 ((sum2 (P.take a) : Nat) : Int) ∧ PB w wq k r vh vr s.idle H L ∧ RC.own wq B3 (.slice Av P.length cv) P) (fun _ p _ => P.length - (intOf p).toNat)
          case atStart => exact ⟨0, rfl, Nat.zero_le _, by simp [sum2], H3.out⟩
          case round =>
            obtain ⟨a, rfl, ha, rfl, hB, hrow⟩ := hrel
            obtain ⟨Ah, ch, Ar, cr, e1, e2, s1, s2, c0, c1, rl⟩ := hB.cells
            by_cases hal : a < P.length
            · obtain ⟨y, hy⟩ : ∃ y, P[a]? = some y := ⟨_, List.getElem?_eq_getElem hal⟩
              obtain ⟨g, c', e, lg, y0, y1⟩ := rc_at hrow hy
              injection e with e3 e4 e5
              subst e3
              clear e4 e5 e1 e2 s1 c0
              have hm : y ∈ P := List.mem_of_getElem? hy
              obtain ⟨hp, hcnt⟩ := HF.out.2.2.1 y hm
              have hst := sum_take hy
              have hle := sum2_take P (a + 1)
              have hbig : sum2 P ≤ 150 := by rw [HF.out.1]; exact hLl
              obtain ⟨t1, ht1⟩ : ∃ t, t = sum2 (P.take a) := ⟨_, rfl⟩
              have HC := Lib.hid (fun q => same_quiet (rcount_any (w := wr.drewN q) (A := Ar) (c := cr) (fun h => by
                obtain ⟨g, off, e, hg, hl⟩ := s2 h
                exact ⟨g, off, e, hg, RowK.lies_same hl rfl⟩) (by omega) (y.1 : Int)))
              rw [← hcnt] at HC
              obtain ⟨ys, yn⟩ := y
              simp only at y0 y1 hp hst HC
              have hw : IntKind.i64.wrap ((t1 : Int) + (yn : Int)) = (t1 : Int) + (yn : Int) := by rw [IntKind.wrap_i64]; omega
              rw [← ht1]
              have HS := Lib.hid (show sum2 (P.take (a + 1)) = t1 + yn by rw [hst, ht1])
              have d1 : decide ((yn : Int) < 1) = false := by simp; omega
              have d6 : decide (yn < 1) = false := by simp; omega
              have HB := Lib.hid (And.intro hB hrow)
              have a0 : (0 : Int) ≤ (a : Int) := by omega
              have a1 : (a : Int) < (P.length : Int) := by omega
              have hl32 := HF.out.2.2.2
              cases a with
              | zero =>
                simp only [Nat.zero_mul, Nat.zero_add] at y0 y1
                clear hB hrow hm hp hcnt hst hle hbig ht1 hy a0 s2
                go_wp2_with fail
                go_quiet ((go_at_call 14; exact Calls.quiet_of_same (HC.out _)))
                go_wp2_with fail
                go_roundw
                case rel => exact ⟨1, rfl, by omega, by rw [HS.out]; go_num, HB.out.1.drewN nq, RowK.own_same HB.out.2 fun _ _ => rfl⟩
                case measure => simp [intOf] <;> omega
              | succ b =>
                obtain ⟨x, hx⟩ : ∃ x, P[b]? = some x := ⟨_, List.getElem?_eq_getElem (by omega)⟩
                obtain ⟨g', c', e, -, z0, -⟩ := rc_at hrow hx
                injection e with e1 e2 e3
                injection e1 with e1
                injection e1 with e1
                subst e1
                clear e2 e3
                have hrs := HF.out.2.1 b x _ hx hy
                obtain ⟨xs, xn⟩ := x
                simp only at z0 hrs
                have d2 : decide ((ys : Int) ≤ (xs : Int)) = false := by simp; omega
                have d4 : decide (ys ≤ xs) = false := by simp; omega
                have d3 : decide ((0 : Int) < (b : Int) + 1) = true := by simp <;> omega
                have hw2 : IntKind.i64.wrap ((b : Int) + 1 - 1) = (b : Int) := by rw [IntKind.wrap_i64]; omega
                have bl : (b : Int) < (P.length : Int) := by omega
                have bb : (0 : Int) ≤ (b : Int) := by omega
                clear hB hrow hm hp hcnt hst hle hbig ht1 hy hx hrs s2
                go_wp2_with fail
                go_quiet ((go_at_call 14; exact Calls.quiet_of_same (HC.out _)))
                go_wp2_with fail
                go_roundw
                case rel => exact ⟨b + 1 + 1, by go_num, by omega, by rw [HS.out]; go_num, HB.out.1.drewN nq, RowK.own_same HB.out.2 fun _ _ => rfl⟩
                case measure => simp [intOf] <;> omega
            · obtain rfl : a = P.length := by omega
              rw [List.take_length, HF.out.1]
              have fz := hB.f.cells.2.2.2.2
              have hR := hB.f.setL (v := .slice none 0 0) (RowK.own_nil _ _) (fun e => by cases e) (fun i _ e => by cases e)
              have kk : Kept (fun i => i = r) wr (wr.setCell ⟨r, 1, none⟩ (.slice none 0 0)) := (Kept.refl _ wr).one _
              have HN := Lib.hid (show PlI w (wr.setCell ⟨r, 1, none⟩ (.slice none 0 0)) r (j + 1) (.pointer (some ⟨k, 0, none⟩)) from
                ⟨k, vh, .slice none 0 0, s.idle, H, [], rfl, ⟨hB.a.kept kk (fun e => hB.ne (.inl e)), hR, (fun h => by
                    rcases h with h | h | h
                    · exact hB.ne (.inl h)
                    · exact hB.ne (.inr (.inl h))
                    · cases h), hB.hk, hB.bel.trans (kk.below (fun i e => by subst e; exact hB.f.hr) hB.bel.size)⟩, HP.out.1.rel.idle, by have := HP.out.1.lh; omega, by simp⟩)
              clear hB hrow hR kk e1 e2 s1 s2 c0
              go_wp2_with fail
              go_meet
              case rel => exact HN.out
        have n3 : (kd == 3) = false := by simpa using k3
        by_cases k4 : kd = 4
        · subst k4
          have HT := Lib.hid (copy_any HP.out.1.b.a)
          go_wp2_with fail
          refine HT.out.mono ?_
          rintro e w3 ⟨rfl, hT, hb⟩
          obtain ⟨k', hk'⟩ : ∃ k', k' = wr.heap.size := ⟨_, rfl⟩
          rw [← hk'] at hT ⊢
          have P3 := HP.out.1.b.below hb
          have hf : ¬ Fr r vh vr k' := fun h => by have := (HP.out.1.b.f.lt h).1; omega
          have hne : k' ≠ k := by have := HP.out.1.b.a.lt; omega
          have hkk : w.heap.size ≤ k' := by have := HP.out.1.b.bel.size; omega
          have HT2 := Lib.hid (handle_any P3.a m false)
          have HC := Lib.hid (And.intro P3 (And.intro hT (And.intro hf (And.intro hne hkk))))
          clear hT hb P3 hf hne hkk hk'
          go_wp2_with fail
          refine HT2.out.mono ?_
          rintro e w4 ⟨rfl, h4, q4⟩
          have P4 := HC.out.1.mine h4 q4
          have t4 := HC.out.2.1.kept q4 HC.out.2.2.2.1
          have HT3 := Lib.hid (raise_any P4.a m (T.le_handle (HP.out.1.rel.le (N := 2147483646) (by have := HP.out.1.ll; omega)) m false))
          have HC4 := Lib.hid (And.intro P4 t4)
          clear h4 q4 P4 t4
          go_wp2_with fail
          refine HT3.out.mono ?_
          rintro e w5 ⟨rfl, h5, q5⟩
          have P5 := HC4.out.1.mine h5 q5
          have t5 := HC4.out.2.kept q5 HC.out.2.2.2.1
          have HN := Lib.hid (show PlI w w5 r (j + 1) (.pointer (some ⟨k', 0, none⟩)) from ⟨k', vh, vr, s, H, L, rfl, P5.other t5 HC.out.2.2.1 HC.out.2.2.2.2, HP.out.1.rel, by have := HP.out.1.lh; omega, by have := HP.out.1.ll; omega⟩)
          clear h5 q5 P5 t5
          go_wp2_with fail
          go_meet
          case rel => exact HN.out
        · have n4 : (kd == 4) = false := by simpa using k4
          have HN := Lib.hid (show PlI w wr r (j + 1) (.pointer (some ⟨k, 0, none⟩)) from ⟨k, vh, vr, s, H, L, rfl, HP.out.1.mono⟩)
          go_wp2_with fail
          go_meet
          case rel => exact HN.out
      case rest =>
        obtain ⟨k', vh', vr', s', H', L', rfl, Q⟩ := hcut
        have HT := Lib.hid (list_any Q.b.a)
        have HQ := Lib.hid Q
        clear Q HP x0 x1
        go_wp2_with fail
        refine HT.out.mono ?_
        rintro e w3 ⟨v, rfl, hrow, hb⟩
        obtain ⟨Av, cv, rfl, hsh, -, -⟩ := RowK.own_shows hrow
        have HM := Lib.hid (And.intro (HQ.out.b.below hb) hsh)
        have HLl := Lib.hid (T.list_len s' 32)
        clear hrow hb hsh
        go_wp2_with fail
        go_loopw [13, 14] (fun t p wr => ∃ kk : Int, p = .int .i64 kk ∧ -1 ≤ kk ∧ kk ≤ 34 ∧ t = .int .i64 (((s'.list kk.toNat).length : Nat) : Int) ∧ PB w wr k' r vh' vr' s' H' L' ∧ RN.shows wr Av (s'.list 32)) (fun _ p _ => (34 - intOf p).toNat)
        case atStart => exact ⟨-1, rfl, by omega, by omega, rfl, HM.out.1, HM.out.2⟩
        case round =>
          obtain ⟨kk, rfl, h1, h2, rfl, hB, hsh⟩ := hrel
          obtain ⟨Ah, ch, Ar, cr, e1, e2, s1, s2, c0, c1, rl⟩ := hB.cells
          by_cases h3 : kk ≤ 33
          · have hHl : H'.length ≤ 151 := by have := HQ.out.lh; omega
            have hLl2 : L'.length ≤ 151 := by have := HQ.out.ll; omega
            have HC1 := Lib.hid (rcount_any (c := ch) s1 (by omega) kk)
            have HH3 := Lib.hid (fun q => same_quiet (rcount_any (w := wr.drewN q) (A := Ar) (c := cr) (fun h => by
              obtain ⟨g, off, e, hg, hl⟩ := s2 h
              exact ⟨g, off, e, hg, RowK.lies_same hl rfl⟩) (by omega) kk))
            have HH1 := Lib.hid (fun q => same_quiet (handled_any (w := wr.drewN q) (s := s') (hB.a.same rfl) kk))
            have HH2 := Lib.hid (fun q => same_quiet (count_any (w := wr.drewN q) (s := s') (hB.a.same rfl) kk))
            rw [HQ.out.rel.has kk] at HH1
            rw [HQ.out.rel.count kk] at HH2
            have hcl := cntI_le H' kk
            have hcl2 := cntI_le L' kk
            have hll := HLl.out
            have hw : IntKind.i64.wrap (kk + 1) = kk + 1 := by rw [IntKind.wrap_i64]; omega
            have HB := Lib.hid (And.intro hB hsh)
            have HI := Lib.hid (And.intro h1 h2)
            have hdrew : ∀ q, RN.shows (wr.drewN q) Av (s'.list 32) := fun q h => by
              obtain ⟨g, off, e, hg, hl⟩ := hsh h
              exact ⟨g, off, e, hg, RowK.lies_same hl rfl⟩
            have HD := Lib.hid hdrew
            by_cases hp : 0 < cntI H' kk
            · have hhas := HQ.out.rel.has kk
              rw [decide_eq_true hp] at hhas
              have hsig : isSig kk = true := by
                unfold T.has at hhas
                exact (Bool.and_eq_true_iff.1 hhas).1
              obtain ⟨i, rfl, i1, i2⟩ := isSig_nat hsig
              have hh : s'.h i = true := by
                unfold T.has at hhas
                exact (Bool.and_eq_true_iff.1 hhas).2
              have hat := list_split s' (show i < 32 by omega) hh
              have hlt2 := (List.getElem?_eq_some_iff.1 hat).1
              obtain ⟨g, off, rfl, hg, m0⟩ := rn_at hsh hat
              have HE := Lib.hid (show (s'.list ((i : Int) + 1).toNat).length = (s'.list i).length + 1 by
                rw [show ((i : Int) + 1).toNat = i + 1 by omega, T.list_succ, hh]; simp)
              rw [show ((i : Int)).toNat = i by omega]
              obtain ⟨nl, hnl⟩ : ∃ nl, nl = (s'.list i).length := ⟨_, rfl⟩
              rw [← hnl] at HE hlt2 m0 ⊢
              obtain ⟨cH, hcH⟩ : ∃ cH, cH = cntI H' (i : Int) := ⟨_, rfl⟩
              obtain ⟨cL, hcL⟩ : ∃ cL, cL = cntI L' (i : Int) := ⟨_, rfl⟩
              obtain ⟨ml, hml⟩ : ∃ ml, ml = (s'.list 32).length := ⟨_, rfl⟩
              rw [← hcH] at HC1 HH1 hp hcl
              rw [← hcL] at HH3 HH2 hcl2
              rw [← hml] at hlt2 hll ⊢
              rw [decide_eq_true hp] at HH1
              have hp1 : (0 : Int) < (cH : Int) := by omega
              have g1 : (nl : Int) < (ml : Int) := by omega
              have g0 : (0 : Int) ≤ (nl : Int) := by omega
              have g2 : decide ((ml : Int) ≤ (nl : Int)) = false := by simp; omega
              have g3 : decide (ml ≤ nl) = false := by simp; omega
              have hw3 : IntKind.i64.wrap ((nl : Int) + 1) = (nl : Int) + 1 := by rw [IntKind.wrap_i64]; omega
              clear hB hsh hdrew h1 h2 s1 s2 e1 e2 hat hh hhas hsig hnl hcH hcL hml hcl hcl2 hlt2
              go_wp2_with fail
              refine HC1.out.mono ?_
              rintro e w4 ⟨rfl, rfl⟩
              go_wp2_with fail
              go_quiet ((first
                | (go_at_call 17; exact Calls.quiet_of_same (HH1.out _))
                | (go_at_call 18; exact Calls.quiet_of_same (HH2.out _))
                | (go_at_call 14; exact Calls.quiet_of_same (HH3.out _))))
              go_wp2_with fail
              go_roundw
              case rel => exact ⟨(i : Int) + 1, rfl, by omega, by omega, by rw [HE.out]; go_num, HB.out.1.drewN nq, HD.out nq⟩
              case measure => simp [intOf] <;> omega
            · have hz : cntI H' kk = 0 := by omega
              have HE := Lib.hid (show (s'.list (kk + 1).toNat).length = (s'.list kk.toNat).length by
                by_cases hk : kk < 0
                · rw [show (kk + 1).toNat = kk.toNat by omega]
                · obtain ⟨i, rfl⟩ : ∃ i : Nat, kk = (i : Int) := ⟨kk.toNat, by omega⟩
                  rw [show ((i : Int) + 1).toNat = i + 1 by omega, show ((i : Int)).toNat = i by omega, T.list_succ, HQ.out.rel.h i, hz]
                  rfl)
              obtain ⟨nl, hnl⟩ : ∃ nl, nl = (s'.list kk.toNat).length := ⟨_, rfl⟩
              rw [← hnl] at HE ⊢
              obtain ⟨cL, hcL⟩ : ∃ cL, cL = cntI L' kk := ⟨_, rfl⟩
              rw [← hcL] at HH3 HH2 hcl2
              rw [hz] at HC1 HH1
              rw [show decide (0 < 0) = false from rfl] at HH1
              clear hB hsh hdrew h1 h2 s1 s2 e1 e2 hnl hcL hcl hcl2 hz hp
              go_wp2_with fail
              refine HC1.out.mono ?_
              rintro e w4 ⟨rfl, rfl⟩
              go_wp2_with fail
              go_quiet ((first
                | (go_at_call 17; exact Calls.quiet_of_same (HH1.out _))
                | (go_at_call 18; exact Calls.quiet_of_same (HH2.out _))
                | (go_at_call 14; exact Calls.quiet_of_same (HH3.out _))))
              go_wp2_with fail
              go_roundw
              case rel => exact ⟨kk + 1, rfl, by have := HI.out.1; omega, by omega, by rw [HE.out], HB.out.1.drewN nq, HD.out nq⟩
              case measure => simp [intOf] <;> omega
          · obtain rfl : kk = 34 := by omega
            have he : (s'.list (34 : Int).toNat).length = (s'.list 32).length := by
              have h32 : s'.h 32 = false := by
                rw [HQ.out.rel.h 32]
                have := cnt_none HQ.out.rel.inH (n := ((32 : Nat) : Int)) (by decide)
                rw [this]; rfl
              have h33 : s'.h 33 = false := by
                rw [HQ.out.rel.h 33]
                have := cnt_none HQ.out.rel.inH (n := ((33 : Nat) : Int)) (by decide)
                rw [this]; rfl
              show (s'.list 34).length = _
              rw [T.list_succ, h33, T.list_succ, h32]
              rfl
            rw [he]
            have hle : s'.le 2147483647 := HQ.out.rel.le (by have := HQ.out.ll; omega)
            subst e1
            subst e2
            have hE := hB.drewN 1
            have HT := Lib.hid (pending_any hE.a hle)
            rw [HQ.out.rel.sum] at HT
            obtain ⟨ml, hml⟩ : ∃ ml, ml = (s'.list 32).length := ⟨_, rfl⟩
            rw [← hml]
            have HR := Lib.hid (And.intro HQ.out.rel (And.intro HQ.out.lh HQ.out.ll))
            clear hB hsh s1 s2 hml he hle
            go_wp2_with fail
            go_region_held3 (fun W' => W'.cell? ⟨r, 1, none⟩ = some (.slice Ar L'.length cr))
              (exact hE.f.cells.2.1)
              (first | (go_at_call 19; refine HT.out.mono ?_; rintro e w6 ⟨rfl, hbx⟩; have hE := hE.below hbx))
            have H6 := Lib.hid (show PlI w w6 r (j + 1) (.pointer (some ⟨k', 0, none⟩)) from ⟨_, _, _, _, _, _, rfl, hE, HR.out.1, HR.out.2.1, HR.out.2.2⟩)
            clear hE
            go_wp2_with fail
            go_roundw
            case rel => exact ⟨j + 1, by go_num, by omega, H6.out⟩
            case measure => simp [intOf] <;> omega
    · obtain rfl : j = l.length := by omega
      have HE := Lib.hid P.b.bel
      clear P
      go_wp2_with fail
      go_ret
      exact ⟨rfl, HE.out⟩
set_option maxRecDepth 100000 in
theorem play_law (w : World) (A : Option Addr) (c : Nat) (l : List Cal) (hA : ArgOps w A l) :
    Calls Try.prog 3 #[.slice A l.length c] w fun e w' => e = .returned (.bool true) ∧ Below w.heap.size w w' := by
  by_cases hn : l.length ≤ 150
  · exact play_any w A c l hn hA
  · have hn1 : (150 : Int) < (l.length : Int) := by omega
    clear hA hn
    go_enter Try.func3, Try.ntmps3
    go_wp2_with fail
    go_ret
    exact ⟨rfl, Below.refl _ _⟩
end Go.Proofs.Ytiancgjpjfejdaa
