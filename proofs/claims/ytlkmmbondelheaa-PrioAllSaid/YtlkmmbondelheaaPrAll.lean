/-
  PrioAll.
-/
import Derived.Test.YtlkmmbondelheaaPrScan
import Derived.Deep.RegionWith
import Derived.Deep.QuietTactic
import Derived.BigQuiet
import Derived.StillTailTactics
namespace Go.Proofs.Ytlkmmbondelheaa
open Go.RowKit Go.Maps Go.ChangeMaps Go.Shelf

def AllTo (w : World) (h many : Nat) (l : List Cal) (k : Nat) (W : World) : Prop := ∃ L, PS w W h many L ∧ L.length ≤ k ∧ Inv many l k L

set_option maxHeartbeats 16000000 in
set_option maxRecDepth 100000 in
theorem all_any (w : World) (A : Option Addr) (c many : Nat) (l : List Cal) (hm : 1 ≤ many ∧ many ≤ 8) (hn : l.length ≤ 100) (hA : ArgOps w A l) :
    Calls Try.prog 4 #[.int .i64 (many : Int), .slice A l.length c] w fun e w' => e = .returned (.bool true) ∧ Below w.heap.size w w' := by
  have HA := Lib.hid hA
  have hi0 : i64 0 := by unfold i64; omega
  clear hA
  go_enter Try.func4, Try.ntmps4
  go_wp2_with fail
  refine (alive_any w).mono ?_
  rintro e w1 ⟨rfl, hb1⟩
  have HB1 := Lib.hid hb1
  clear hb1
  go_wp2_with fail
  refine (ps_new HB1.out many hm.1 hm.2).mono ?_
  rintro e w2 ⟨h, rfl, hP⟩
  have H2 := Lib.hid hP
  clear hP
  go_wp2_with fail
  go_loopw [8] (fun i wr => ∃ k : Nat, i = .int .i64 (k : Int) ∧ k ≤ l.length ∧ AllTo w h many l k wr) (fun i _ => l.length - (intOf i).toNat)
  case atStart => exact ⟨0, rfl, Nat.zero_le _, _, H2.out, by simp, Inv.first _ _⟩
  case round =>
    obtain ⟨k, rfl, hk, L, hP, hl, hI⟩ := hrel
    by_cases hlt : k < l.length
    · obtain ⟨b, off, x, rfl, hbl, hz, hok, x0, x1, x2, x3, x4⟩ := HA.out.at_ hP.b hlt
      have b0 : (0 : Int) ≤ (k : Int) := by omega
      have b1 : (k : Int) < (l.length : Int) := by omega
      have HP := Lib.hid (ps_put hP.drew x.pr x.id x.fl 0 hok.pr hok.id hok.fl hi0 (by omega))
      have HI := Lib.hid (And.intro hl (fun bk => hI.put hz bk))
      clear hP hz hok hl hI
      go_wp2_with fail
      go_still_tail 16, (by kernel_rfl)
      change wpList _ _ _ _ _ wr.drew
      go_wp2_with fail
      refine HP.out.mono ?_
      rintro e w3 ⟨rfl, bk, hP3⟩
      have H3 := Lib.hid (show AllTo w h many l (k + 1) w3 from ⟨_, hP3, Nat.le_trans (putS_len many L x.pr x.id x.fl 0 bk) (by have := HI.out.1; omega), HI.out.2 bk⟩)
      clear hP3
      go_wp2_with fail
      all_goals exact ⟨⟨k + 1, by go_num, by omega, H3.out⟩, by simp [intOf]; omega⟩
    · obtain rfl : k = l.length := by omega
      have b1 : ¬ ((l.length : Int) < (l.length : Int)) := by omega
      have HL := Lib.hid (And.intro hl (And.intro hI hP.facts))
      have hLen := Lib.hid (ps_len hP)
      obtain ⟨t0, et⟩ : ∃ t0, t0 = L.length := ⟨_, rfl⟩
      rw [← et] at hLen
      have HT := Lib.hid et
      have HPP := Lib.hid (show PS w wr h many (beyond L (-1)) from by rw [beyond_first]; exact hP)
      have HBF := Lib.hid (show (beyond L (-1)).length = t0 by rw [beyond_first, et])
      clear hP hl hI et
      go_wp2_with (first
        | (go_at_call 21; refine hLen.out.mono ?_; rintro e w' ⟨rfl, rfl⟩)
        | fail)
      go_loopw [9, 11, 12] (fun q s n wz => ∃ (q0 : Int) (s0 n0 : Nat), q = .int .i64 q0 ∧ s = .int .i64 (s0 : Int) ∧ n = .int .i64 (n0 : Int) ∧ -1 ≤ q0 ∧ q0 < (many : Int) ∧ (n0 : Int) ≤ q0 + 1 ∧ s0 + (beyond L q0).length = t0 ∧ PS w wz h many (beyond L q0)) (fun _ _ n _ => many + 1 - (intOf n).toNat)
      case atStart => exact ⟨-1, 0, 0, rfl, rfl, rfl, by omega, by omega, by omega, by rw [HBF.out]; omega, HPP.out⟩
      case round =>
        obtain ⟨q0, s0, n0, rfl, rfl, rfl, q1, q2, q3, hs, hP⟩ := hrel
        have q4 : (n0 : Int) ≤ (many : Int) := by omega
        have hz0 : s0 ≤ t0 := by omega
        by_cases hne : beyond L q0 = []
        · have hL0 := ps_len hP
          rw [hne] at hL0 hs
          have HL0 := Lib.hid (show Calls Try.prog 21 #[.pointer (some ⟨h, 0, none⟩)] wr fun e w' => e = .returned (.int .i64 0) ∧ wr = w' from hL0)
          obtain rfl : s0 = t0 := by simpa using hs
          have HPz := Lib.hid hP.b
          clear hP hL0 hne hs
          go_wp2_with (first
            | (go_at_call 21; refine HL0.out.mono ?_; rintro e w' ⟨rfl, rfl⟩)
            | fail)
          go_ret
          exact ⟨rfl, HPz.out⟩
        · obtain ⟨p, p1, p2, p3, p4, p5, p6, p7⟩ := batch_next hne
          obtain ⟨m0, em⟩ : ∃ m0, m0 = (beyond L q0).length := ⟨_, rfl⟩
          have m1 : (0 : Int) < (m0 : Int) := by have := List.length_pos_iff.2 hne; omega
          have hLn := ps_len hP
          rw [← em] at hLn p6
          have HLn := Lib.hid hLn
          have hLe := ps_least hP
          rw [p1] at hLe
          have HLe := Lib.hid hLe
          obtain ⟨n1, en⟩ : ∃ n1, n1 = (ofP L p).length := ⟨_, rfl⟩
          have n2 : 0 < n1 := by rw [en]; exact List.length_pos_iff.2 p4
          have n3 : ((n1 : Int) == 0) = false := by simp; omega
          have n4 : ¬ (p : Int) ≤ q0 := by omega
          have hpm : p < many := by obtain ⟨x, hx, rfl⟩ := p7; exact (HL.out.2.2.2.1 x hx).pr
          rw [← en] at p6
          rw [← em] at hs
          have HF := Lib.hid (And.intro en (And.intro p3 (And.intro p5 (And.intro p6 hs))))
          clear hP hLn hLe em p1 p3 p4 p5 p6 p7 hne hs en
          go_wp2_with (first
            | (go_at_call 21; refine HLn.out.mono ?_; rintro e w' ⟨rfl, rfl⟩)
            | fail)
          refine HLe.out.mono ?_
          rintro e w4 ⟨rfl, hP4⟩
          have hB4 := ps_batch hP4
          rw [HF.out.2.1, HF.out.2.2.1, ← HF.out.1] at hB4
          have HB4 := Lib.hid hB4
          clear hP4 hB4
          go_wp2_with fail
          refine HB4.out.mono ?_
          rintro e w5 ⟨A5, c5, rfl, hP5⟩
          obtain ⟨g5, rfl, _, _⟩ := (hP5.rowAt List.mem_cons_self).2 n2
          have HP5 := Lib.hid hP5
          clear hP5
          go_wp2_with fail
          go_loopw [11, 15, 16] (fun s a n wy => ∃ (k : Nat) (a0 : Int), n = .int .i64 (k : Int) ∧ s = .int .i64 ((s0 + k : Nat) : Int) ∧ a = .int .i64 a0 ∧ k ≤ n1 ∧ (∀ y, (ofP L p)[k]? = some y → a0 < (scan many l y.id l.length).1) ∧ PS w wy h many (beyond L (p : Int)) [.row (.slice (some ⟨g5, 0, none⟩) n1 c5) (ofP L p)]) (fun _ _ n _ => n1 - (intOf n).toNat)
          case atStart => exact ⟨0, -1, rfl, rfl, rfl, Nat.zero_le _, fun y hy => by have := (HL.out.2.1.has y (ofP_mem.1 (List.mem_of_getElem? hy)).1).1; omega, HP5.out⟩
          case round =>
            obtain ⟨k, a0, rfl, rfl, rfl, hk, ha, hP⟩ := hrel
            by_cases hlk : k < n1
            · obtain ⟨y, hy⟩ : ∃ y, (ofP L p)[k]? = some y := ⟨_, List.getElem?_eq_getElem (by have := HF.out.1; omega)⟩
              have hyL := ofP_mem.1 (List.mem_of_getElem? hy)
              have hyI := HL.out.2.1.has y hyL.1
              have k0 : (0 : Int) ≤ (k : Int) := by omega
              have k1 : (k : Int) < (n1 : Int) := by omega
              have hsk : ((s0 + k : Nat) : Int) ≤ 100 := by have := HF.out.2.2.2.1; have := HF.out.2.2.2.2; have := HL.out.1; have := HT.out; omega
              have HY := Lib.hid (And.intro hy (And.intro hyL (And.intro hyI (ha y hy))))
              have HP := Lib.hid hP
              clear hP ha hy hyL hyI
              go_wp2_with fail
              go_loopw [17, 18, 19] (fun f g i wy => ∃ j : Nat, i = .int .i64 (j : Int) ∧ f = .int .i64 (scan many l y.id j).1 ∧ g = .int .i64 (scan many l y.id j).2 ∧ j ≤ l.length ∧ PS w wy h many (beyond L (p : Int)) [.row (.slice (some ⟨g5, 0, none⟩) n1 c5) (ofP L p)]) (fun _ _ i _ => l.length - (intOf i).toNat)
              case atStart => exact ⟨0, rfl, rfl, rfl, Nat.zero_le _, HP.out⟩
              case round =>
                obtain ⟨j, rfl, rfl, rfl, hj, hP⟩ := hrel
                by_cases hlj : j < l.length
                · obtain ⟨b, off, x, rfl, hbl, hz, hok, x0, x1, x2, x3, x4⟩ := HA.out.at_ hP.b hlj
                  have b0 : (0 : Int) ≤ (j : Int) := by omega
                  have b1 : (j : Int) < (l.length : Int) := by omega
                  have hh := fun h => scan_hit (many := many) (k := y.id) hz h
                  have hmi := fun h => scan_miss (many := many) (k := y.id) hz h
                  obtain ⟨f0, ef⟩ : ∃ f0, f0 = (scan many l y.id j).1 := ⟨_, rfl⟩
                  obtain ⟨g0, eg⟩ : ∃ g0, g0 = (scan many l y.id j).2 := ⟨_, rfl⟩
                  have f1 := scan_le (many := many) (l := l) (k := y.id) j
                  have f2 := f1.1
                  have f3 := f1.2.1
                  rw [← ef] at f2 f3
                  rw [← ef, ← eg]
                  rw [← ef, ← eg] at hh
                  have HS := Lib.hid (And.intro hh (And.intro hmi (And.intro ef eg)))
                  have HP := Lib.hid hP
                  have hP2 := hP.blk 33 #[.int .i64 x.k, .int .i64 x.pr, .int .i64 x.id, .int .i64 x.fl, .int .i64 x.ct]
                  obtain ⟨xk, exk⟩ : ∃ xk, xk = wr.heap.size := ⟨_, rfl⟩
                  obtain ⟨W, eW⟩ : ∃ W, W = wr.alloc (.cells #[.int .i64 x.k, .int .i64 x.pr, .int .i64 x.id, .int .i64 x.fl, .int .i64 x.ct] 33) := ⟨_, rfl⟩
                  rw [← exk, ← eW] at hP2
                  have EW := Lib.hid (And.intro exk eW)
                  have HP2 := Lib.hid (hP2.less (Y := [.row (.slice (some ⟨g5, 0, none⟩) n1 c5) (ofP L p)]) (fun f hf => List.mem_cons_of_mem _ hf))
                  clear hP hz hh hmi ef eg f1 exk eW
                  go_wp2_with fail
                  rw [← EW.out.2, ← EW.out.1]
                  have hxb := hP2.atBlk List.mem_cons_self
                  clear x0 x1 x2 x3 x4
                  have x1 : W.cell? ⟨xk, 1, none⟩ = some (.int .i64 x.pr) := hxb.cell 1
                  have x2 : W.cell? ⟨xk, 2, none⟩ = some (.int .i64 x.id) := hxb.cell 2
                  have x3 : W.cell? ⟨xk, 3, none⟩ = some (.int .i64 x.fl) := hxb.cell 3
                  obtain ⟨g', eg', gl, hcell⟩ := (hP2.rowAt (List.mem_cons_of_mem _ List.mem_cons_self)).2 n2
                  injection eg' with eg'
                  injection eg' with eg'
                  subst eg'
                  have y0 := (hcell k y HY.out.1).1
                  clear hxb hcell hP2
                  by_cases e1 : x.id = y.id
                  · have e1b : (x.id != y.id) = false := by simpa using e1
                    by_cases e2 : x.pr < 0
                    · have hmiss := Lib.hid (HS.out.2.1 (by unfold hitB; simp; omega))
                      clear e1
                      go_big_quiet (fail)
                      go_wp2_with fail
                      exact ⟨⟨j + 1, by go_num, by rw [hmiss.out, HS.out.2.2.1], by rw [hmiss.out, HS.out.2.2.2], by omega, HP2.out.drewN _⟩, by simp [intOf]; omega⟩
                    by_cases e3 : (many : Int) ≤ x.pr
                    · have hmiss := Lib.hid (HS.out.2.1 (by unfold hitB; simp; omega))
                      clear e1
                      go_big_quiet (fail)
                      go_wp2_with fail
                      exact ⟨⟨j + 1, by go_num, by rw [hmiss.out, HS.out.2.2.1], by rw [hmiss.out, HS.out.2.2.2], by omega, HP2.out.drewN _⟩, by simp [intOf]; omega⟩
                    by_cases e4 : x.fl < 0
                    · have hmiss := Lib.hid (HS.out.2.1 (by unfold hitB; simp; omega))
                      clear e1
                      go_big_quiet (fail)
                      go_wp2_with fail
                      exact ⟨⟨j + 1, by go_num, by rw [hmiss.out, HS.out.2.2.1], by rw [hmiss.out, HS.out.2.2.2], by omega, HP2.out.drewN _⟩, by simp [intOf]; omega⟩
                    · have hhit := HS.out.1 (by unfold hitB; simp; omega)
                      by_cases e5 : f0 < 0
                      · rw [if_pos e5] at hhit
                        have HH := Lib.hid hhit
                        clear hhit e1
                        go_big_quiet (fail)
                        go_wp2_with fail
                        exact ⟨⟨j + 1, by go_num, by rw [HH.out], by rw [HH.out]; rfl, by omega, HP2.out.drewN _⟩, by simp [intOf]; omega⟩
                      · rw [if_neg e5] at hhit
                        have HH := Lib.hid hhit
                        clear hhit e1
                        go_big_quiet (fail)
                        go_wp2_with fail
                        exact ⟨⟨j + 1, by go_num, by rw [HH.out], by rw [HH.out]; rfl, by omega, HP2.out.drewN _⟩, by simp [intOf]; omega⟩
                  · have e1b : (x.id != y.id) = true := by simpa using e1
                    have hmiss := Lib.hid (HS.out.2.1 (by unfold hitB; simp; omega))
                    clear e1
                    go_big_quiet (fail)
                    go_wp2_with fail
                    exact ⟨⟨j + 1, by go_num, by rw [hmiss.out, HS.out.2.2.1], by rw [hmiss.out, HS.out.2.2.2], by omega, HP2.out.drewN _⟩, by simp [intOf]; omega⟩
                · obtain rfl : j = l.length := by omega
                  obtain ⟨hy, hyL, ⟨hy0, hyf, x, hx, hxp⟩, hya⟩ := HY.out
                  obtain ⟨F, eF⟩ : ∃ F : Nat, (F : Int) = (scan many l y.id l.length).1 := ⟨_, Int.toNat_of_nonneg hy0⟩
                  rw [← eF] at hx hya ⊢
                  rw [hyf]
                  have hFl : F < l.length := by have := (List.getElem?_eq_some_iff.1 hx).1; simpa using this
                  obtain ⟨b, off, x', rfl, hbl, hz, hok, x0, x1, x2, x3, x4⟩ := HA.out.at_ hP.b hFl
                  have exx : x' = x := by have h1 : l[F]? = some x := by simpa using hx
                                          rw [hz] at h1; exact Option.some.inj h1
                  rw [exx, hxp, hyL.2] at x1
                  have hord : ∀ y', (ofP L p)[k + 1]? = some y' → (F : Int) < (scan many l y'.id l.length).1 := fun y' hy' => by
                    have h1 : (ofP L p).Pairwise fun y z => (scan many l y.id l.length).1 < (scan many l z.id l.length).1 := HL.out.2.1.ord.filter _
                    obtain ⟨a1, a2⟩ := List.getElem?_eq_some_iff.1 hy
                    obtain ⟨b1, b2⟩ := List.getElem?_eq_some_iff.1 hy'
                    have := List.pairwise_iff_getElem.1 h1 k (k + 1) a1 b1 (by omega)
                    rw [a2, b2, ← eF] at this
                    exact this
                  have HO := Lib.hid (And.intro hord hP)
                  obtain ⟨g', eg', gl, hcell⟩ := (hP.rowAt List.mem_cons_self).2 n2
                  injection eg' with eg'
                  injection eg' with eg'
                  subst eg'
                  have y1 := (hcell k y hy).2.1
                  have z1 : ¬ ((F : Int) ≤ a0) := by omega
                  have z2 : (F : Int) < (l.length : Int) := by omega
                  have z3 : (0 : Int) ≤ (F : Int) := by omega
                  have z4 : ¬ ((l.length : Int) < (l.length : Int)) := by omega
                  clear hP hord hcell hz hx hxp hyL hy hy0 hyf hya eF hok exx x0 x2 x3 x4
                  go_wp2_with fail
                  go_roundw
                  case rel => exact ⟨k + 1, F, by go_num, by go_num, rfl, by omega, HO.out.1, HO.out.2⟩
                  case measure => simp [intOf]; omega
            · obtain rfl : k = n1 := by omega
              have z4 : ¬ ((k : Int) < (k : Int)) := by omega
              have HP := Lib.hid (hP.less (Y := []) (fun f hf => by simp at hf))
              clear hP ha
              go_wp2_with fail
              go_roundw
              case rel =>
                obtain ⟨-, -, -, u1, u2⟩ := HF.out
                exact ⟨p, s0 + k, n0 + 1, rfl, rfl, by go_num, by omega, by omega, by omega, by omega, HP.out⟩
              case measure => simp [intOf]; omega

set_option maxHeartbeats 4000000 in
set_option maxRecDepth 100000 in
theorem all_out (w : World) (A : Option Addr) (n c : Nat) (m : Int) (h : (m < 1 ∨ 8 < m) ∨ 100 < n) : Calls Try.prog 4 #[.int .i64 m, .slice A n c] w fun e w' => e = .returned (.bool true) ∧ Below w.heap.size w w' := by
  by_cases h1 : m < 1
  · go_enter Try.func4, Try.ntmps4
    go_wp2_with fail
    refine (alive_any w).mono ?_
    rintro e w1 ⟨rfl, hb1⟩
    go_wp2_with fail
    go_ret
    exact ⟨rfl, hb1⟩
  by_cases h2 : 8 < m
  · go_enter Try.func4, Try.ntmps4
    go_wp2_with fail
    refine (alive_any w).mono ?_
    rintro e w1 ⟨rfl, hb1⟩
    go_wp2_with fail
    go_ret
    exact ⟨rfl, hb1⟩
  · have h3 : (100 : Int) < (n : Int) := by omega
    go_enter Try.func4, Try.ntmps4
    go_wp2_with fail
    refine (alive_any w).mono ?_
    rintro e w1 ⟨rfl, hb1⟩
    go_wp2_with fail
    go_ret
    exact ⟨rfl, hb1⟩

theorem all_law (w : World) (A : Option Addr) (c : Nat) (l : List Cal) (m : Int) (hA : ArgOps w A l) :
    Calls Try.prog 4 #[.int .i64 m, .slice A l.length c] w fun e w' => e = .returned (.bool true) ∧ Below w.heap.size w w' := by
  by_cases h : (m < 1 ∨ 8 < m) ∨ 100 < l.length
  · exact all_out w A l.length c m h
  · obtain ⟨k, rfl⟩ : ∃ k : Nat, m = (k : Int) := ⟨m.toNat, by omega⟩
    exact all_any w A c k l (by omega) (by omega) hA
end Go.Proofs.Ytlkmmbondelheaa
