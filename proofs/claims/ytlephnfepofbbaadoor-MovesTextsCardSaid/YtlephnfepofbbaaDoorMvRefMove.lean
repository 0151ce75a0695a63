/-
  The document's move of words, where they are no put's.
-/
import Derived.Test.YtlephnfepofbbaaDoorMvRefMvD
namespace Go.Proofs.YtlephnfepofbbaaDoor
open Go.RowKit Go.Shelf Go.Maps Go.ChangeMaps

set_option maxRecDepth 100000 in
set_option maxHeartbeats 16000000 in
theorem rmove_other (A : Option Addr) (n cp : Nat) (ws : List ByteArray) (w : World) (hno1 : opOf ((lw ws).getD 0 []) ≠ some 1) (hW : Wds w A n ws) (hn : 0 < n) (hn2 : n ≤ 100000) (hcp : n ≤ cp) :
    Calls Tryd.prog 43 #[.slice A n cp] w (MoveR w (moveR (lw ws))) := by
  obtain ⟨len, ⟨g0, off, rfl, hg0, hc0⟩, hsz⟩ := hW
  have hW : Wds w (some ⟨g0, off, none⟩) n ws := ⟨len, ⟨g0, off, rfl, hg0, hc0⟩, hsz⟩
  obtain ⟨s0, hs0⟩ : ∃ s0, ws[0]? = some s0 := ⟨_, List.getElem?_eq_getElem (by omega)⟩
  have HW := Lib.hid hW
  have HS0 := Lib.hid hs0
  have HLen := Lib.hid len
  have hno1 : opOf s0.data.toList ≠ some 1 := by rw [← lw_get ws 0 s0 hs0]; exact hno1
  have HNO1 := Lib.hid hno1
  clear hno1
  obtain ⟨W0, hW0⟩ : ∃ W0, (w.alloc (.cells #[.int .i64 0, .int .i64 0, .int .i64 0, .slice none 0 0] 44)).alloc (.cells #[.int .i64 0, .int .i64 0, .int .i64 0, .slice none 0 0] 44) = W0 := ⟨_, rfl⟩
  have hB0 : Below w.heap.size w W0 := by rw [← hW0]; exact ((Below.refl _ _).alloc (Nat.le_refl _) _).alloc (by simp) _
  have b1 : Blk W0 w.heap.size 44 #[.int .i64 0, .int .i64 0, .int .i64 0, .slice none 0 0] := by rw [← hW0]; exact (Blk.new w _ _).alloc _
  have b2 : Blk W0 (w.heap.size + 1) 44 #[.int .i64 0, .int .i64 0, .int .i64 0, .slice none 0 0] := by
    rw [← hW0]
    have := Blk.new (w.alloc (.cells #[.int .i64 0, .int .i64 0, .int .i64 0, .slice none 0 0] 44)) 44 #[.int .i64 0, .int .i64 0, .int .i64 0, .slice none 0 0]
    simpa using this
  have HW0 := Lib.hid hW0
  have HB0 := Lib.hid (And.intro hB0 (And.intro b1 b2))
  clear hW hc0 hsz hs0 hW0 hB0 b1 b2 len
  go_enter Tryd.func43, Tryd.ntmps43
  go_wp2_with fail
  rw [HW0.out]
  go_loopw [5] (fun i wr => ∃ (j z : Nat), 1 ≤ j ∧ j ≤ 8 ∧ i = .int .i64 j ∧ Hid (Fnd s0.data.toList j z) ∧ Hid (Blk wr w.heap.size 44 #[.int .i64 0, .int .i64 0, .int .i64 0, .slice none 0 0]) ∧ Hid (Blk wr (w.heap.size + 1) 44 #[.int .i64 (z : Int), .int .i64 0, .int .i64 0, .slice none 0 0]) ∧ Hid (Below w.heap.size w wr)) (fun i _ => 8 - (intOf i).toNat)
  case atStart => exact ⟨1, 0, by omega, by omega, rfl, Lib.hid (.inl ⟨rfl, fun k h1 h2 => by omega⟩), HB0.out.2.1, HB0.out.2.2, HB0.out.1⟩
  case round =>
    obtain ⟨j, z, j1, j8, rfl, HFnd, HA1, HA2, HB⟩ := hrel
    by_cases hlt : j < 8
    · have hlt' : (j : Int) ≤ 7 := by omega
      have hn' : (0 : Int) < (n : Int) := by omega
      obtain ⟨K, hK, hwd⟩ : ∃ K : ByteArray, K.data.toList = wordN j ∧ ∀ V, Calls Tryd.prog 30 #[.int .i64 (j : Int)] V fun e w' => e = .returned (.string K) ∧ Below V.heap.size V w' :=
        ⟨⟨(wordI (j : Int)).toArray⟩, by show (wordI (j : Int)).toArray.toList = _; unfold wordI; simp, fun V => rword_any _ V⟩
      have HWD := Lib.hid hwd
      have hgl : g0 < wr.heap.size := Nat.lt_of_lt_of_le hg0 HB.out.size
      have hcell : wr.cell? ⟨g0, off, none⟩ = some (.string s0) := by
        obtain ⟨_, ⟨g, o, e, hg, hc⟩, _⟩ := HW.out.below HB.out
        injection e with e
        injection e with e1 e2
        subst e1 e2
        exact hc 0 s0 HS0.out
      have k2 := HA2.out.cell 0
      have f2 := HA2.out.frozen 0
      have l2 := HA2.out.lt
      by_cases hw : s0.data.toList = wordN j
      · have hq : (s0.toList == K.toList) = true := by rw [seq_eq, Lib.toList_data, hK]; exact decide_eq_true hw
        have HF2 := Lib.hid (HFnd.out.hit ⟨j1, by omega⟩ hw)
        clear hK hw hwd
        go_wp2_with fail
        go_region_with (go_at_call 30; refine (HWD.out _).mono ?_; rintro e w1 ⟨rfl, hb⟩; have hc1 : w1.cell? ⟨g0, off, none⟩ = some (.string s0) := (hb.cell (p := ⟨g0, off, none⟩) hgl).trans hcell; have hgl1 : g0 < w1.heap.size := Nat.lt_of_lt_of_le hgl hb.size; have q2 : Blk w1 (w.heap.size + 1) 44 #[.int .i64 (z : Int), .int .i64 0, .int .i64 0, .slice none 0 0] := HA2.out.same (hb.block _ l2); have q1 : Blk w1 w.heap.size 44 #[.int .i64 0, .int .i64 0, .int .i64 0, .slice none 0 0] := HA1.out.same (hb.block _ HA1.out.lt); have k3 := q2.cell 0; have f3 := q2.frozen 0; have l3 := q2.lt; have q3 : Below w.heap.size w w1 := HB.out.drew.trans (hb.mono HB.out.size); have HQ := Lib.hid (And.intro q1 (And.intro q2 q3)); clear q1 q2 q3 hb)
        all_goals
          go_wp2_with fail
          go_roundw
          case rel => exact ⟨j + 1, j, by omega, by omega, by go_num, HF2, Lib.hid (HQ.out.1.far (by show w.heap.size ≠ w.heap.size + 1; omega) _), Lib.hid (by simpa using HQ.out.2.1.set_ 0 (.int .i64 (j : Int))), Lib.hid (HQ.out.2.2.setCell (by show w.heap.size ≤ w.heap.size + 1; omega) _)⟩
          case measure => simp [intOf]; omega
      · have hq : (s0.toList == K.toList) = false := by rw [seq_eq, Lib.toList_data, hK]; exact decide_eq_false hw
        have HF2 := Lib.hid (HFnd.out.miss hw)
        clear hK hw hwd
        go_wp2_with fail
        go_region_with (go_at_call 30; refine (HWD.out _).mono ?_; rintro e w1 ⟨rfl, hb⟩; have hc1 : w1.cell? ⟨g0, off, none⟩ = some (.string s0) := (hb.cell (p := ⟨g0, off, none⟩) hgl).trans hcell; have hgl1 : g0 < w1.heap.size := Nat.lt_of_lt_of_le hgl hb.size; have q2 : Blk w1 (w.heap.size + 1) 44 #[.int .i64 (z : Int), .int .i64 0, .int .i64 0, .slice none 0 0] := HA2.out.same (hb.block _ l2); have q1 : Blk w1 w.heap.size 44 #[.int .i64 0, .int .i64 0, .int .i64 0, .slice none 0 0] := HA1.out.same (hb.block _ HA1.out.lt); have k3 := q2.cell 0; have f3 := q2.frozen 0; have l3 := q2.lt; have q3 : Below w.heap.size w w1 := HB.out.drew.trans (hb.mono HB.out.size); have HQ := Lib.hid (And.intro q1 (And.intro q2 q3)); clear q1 q2 q3 hb)
        all_goals
          go_wp2_with fail
          go_roundw
          case rel => exact ⟨j + 1, z, by omega, by omega, by go_num, HF2, Lib.hid HQ.out.1, Lib.hid HQ.out.2.1, Lib.hid HQ.out.2.2⟩
          case measure => simp [intOf]; omega
    · obtain rfl : j = 8 := by omega
      have hlt' : ¬ ((8 : Nat) : Int) ≤ 7 := by omega
      have k0 := HA2.out.cell 0
      have k1 := HA2.out.cell 1
      have k2 := HA2.out.cell 2
      have k3 := HA2.out.cell 3
      have l2 := HA2.out.lt
      rcases HFnd.out.end_ with ⟨rfl, hno⟩ | ⟨z1, z7, hop⟩
      · have HM : Hid (moveR (lw ws) = (⟨0, 0, 0, []⟩, 0)) := Lib.hid (by
          unfold moveR
          rw [lw_get ws 0 s0 HS0.out, hno])
        have e0 := HA1.out.cell 0
        have e1 := HA1.out.cell 1
        have e2 := HA1.out.cell 2
        have e3 := HA1.out.cell 3
        have e4 := HA1.out.frozen 0
        have e5 := HA1.out.frozen 1
        have e6 := HA1.out.frozen 2
        have e7 := HA1.out.frozen 3
        have l1 := HA1.out.lt
        clear hno
        have HD : Hid (Blk ((((wr.setCell ⟨w.heap.size, 0, none⟩ (.int .i64 0)).setCell ⟨w.heap.size, 1, none⟩ (.int .i64 0)).setCell ⟨w.heap.size, 2, none⟩ (.int .i64 0)).setCell ⟨w.heap.size, 3, none⟩ (.slice none 0 0)) w.heap.size 44 #[.int .i64 0, .int .i64 0, .int .i64 0, .slice none 0 0]) := Lib.hid (by simpa using (((HA1.out.set_ 0 (.int .i64 0)).set_ 1 (.int .i64 0)).set_ 2 (.int .i64 0)).set_ 3 (.slice none 0 0))
        have HDB : Hid (Below w.heap.size w ((((wr.setCell ⟨w.heap.size, 0, none⟩ (.int .i64 0)).setCell ⟨w.heap.size, 1, none⟩ (.int .i64 0)).setCell ⟨w.heap.size, 2, none⟩ (.int .i64 0)).setCell ⟨w.heap.size, 3, none⟩ (.slice none 0 0))) := Lib.hid ((((HB.out.setCell (Nat.le_refl _) _).setCell (Nat.le_refl _) _).setCell (Nat.le_refl _) _).setCell (Nat.le_refl _) _)
        go_wp2_with fail
        have d0 := HD.out.cell 0
        have d1 := HD.out.cell 1
        have d2 := HD.out.cell 2
        have d3 := HD.out.cell 3
        refine bodyPost_ret (v := .tuple #[.agg #[.int .i64 0, .int .i64 0, .int .i64 0, .slice none 0 0], .int .i64 0]) (by simp [results, Tryd.results43, go_sem, d0, d1, d2, d3]) rfl ?_
        rw [HM.out]
        exact ⟨none, 0, rfl, OwB.nil _ _, HDB.out⟩
      · have e0 := HA1.out.cell 0
        have e1 := HA1.out.cell 1
        have e2 := HA1.out.cell 2
        have e3 := HA1.out.cell 3
        have e4 := HA1.out.frozen 0
        have e5 := HA1.out.frozen 1
        have e6 := HA1.out.frozen 2
        have e7 := HA1.out.frozen 3
        have l1 := HA1.out.lt
        have f1 := HA2.out.frozen 1
        have f2 := HA2.out.frozen 2
        have hWI := fun X => rwire_any (z : Int) X
        have hNU := fun X => rnumber_any (z : Int) X
        have hMR : moveR (lw ws) = (⟨(z : Int), (mvWR (lw ws) z).1, (mvNR (lw ws) z (mvWR (lw ws) z).2).1, (mvDR (lw ws) z (mvNR (lw ws) z (mvWR (lw ws) z).2).2).1⟩, (mvDR (lw ws) z (mvNR (lw ws) z (mvWR (lw ws) z).2).2).2) := by
          conv => lhs; unfold moveR
          rw [lw_get ws 0 s0 HS0.out, hop]
        have hgl : g0 < wr.heap.size := Nat.lt_of_lt_of_le hg0 HB.out.size
        have hgn : ¬ g0 = w.heap.size + 1 := by omega
        have hgn2 : ¬ w.heap.size + 1 = g0 := by omega
        have hll : (lw ws).length = n := by rw [lw_len]; exact HLen.out
        have hcells : ∀ i s, ws[i]? = some s → wr.cell? ⟨g0, off + i, none⟩ = some (.string s) := by
          obtain ⟨_, ⟨g, o, e, hg, hc⟩, _⟩ := HW.out.below HB.out
          injection e with e
          injection e with e1 e2
          subst e1 e2
          exact hc
        have hsmall : ∀ i s, ws[i]? = some s → ∀ X, Calls Tryd.prog 42 #[.string s] X fun e w' => e = .returned (.int .i64 (smallR ((lw ws).getD i []))) ∧ X = w' := fun i s hs X => by
          rw [lw_get ws i s hs]
          exact rsmall_any s (HW.out.sz s (List.mem_of_getElem? hs)) X
        have HC := Lib.hid hcells
        have HSM := Lib.hid hsmall
        have hz1 : ¬ z = 1 := fun e => HNO1.out (by rw [hop, e])
        clear hcells hsmall hop
        cases eW : hasW (z : Int) with
        | true =>
          by_cases n1 : 1 < n
          · obtain ⟨s1, hs1⟩ : ∃ s1, ws[1]? = some s1 := ⟨_, List.getElem?_eq_getElem (by have := HLen.out; omega)⟩
            have HS1 := Lib.hid (HSM.out 1 s1 hs1)
            have g1 := HC.out 1 s1 hs1
            have n1' : (1 : Int) < (n : Int) := by omega
            have eq1 : mvWR (lw ws) z = (smallR ((lw ws).getD 1 []), 2) := by unfold mvWR; rw [if_pos ⟨eW, by omega⟩]
            obtain ⟨x, hx⟩ : ∃ x, smallR ((lw ws).getD 1 []) = x := ⟨_, rfl⟩
            rw [hx] at HS1 eq1
            rw [eq1] at hMR
            cases eN : hasN (z : Int) with
            | true =>
              have z1' : ¬ z = 1 := fun e => by subst e; exact absurd eN (by decide)
              have z1'' : ¬ (z : Int) = 1 := by omega
              by_cases n2 : 2 < n
              · obtain ⟨s2, hs2⟩ : ∃ s2, ws[2]? = some s2 := ⟨_, List.getElem?_eq_getElem (by have := HLen.out; omega)⟩
                have HS2 := Lib.hid (HSM.out 2 s2 hs2)
                have g2 := HC.out 2 s2 hs2
                have n2' : (2 : Int) < (n : Int) := by omega
                have eq2 : mvNR (lw ws) z 2 = (smallR ((lw ws).getD 2 []), 3) := by unfold mvNR; rw [if_pos ⟨eN, by omega⟩]
                obtain ⟨y, hy⟩ : ∃ y, smallR ((lw ws).getD 2 []) = y := ⟨_, rfl⟩
                rw [hy] at HS2 eq2
                have eq3 : mvDR (lw ws) z 3 = ([], 3) := by unfold mvDR; rw [if_neg (fun e => z1'' e.1)]
                have HMR : Hid (moveR (lw ws) = (⟨(z : Int), x, y, []⟩, 3)) := Lib.hid (by rw [hMR]; (try simp only []); rw [eq2]; (try simp only []); rw [eq3]; (try simp only []); (try rfl))
                rw [eW] at hWI
                rw [eN] at hNU
                have HWI := Lib.hid hWI
                have HNU := Lib.hid hNU
                clear hMR hWI hNU eq2 eq3 eW eN hll eq1 hx hy hs1 hs2 n1 n2 z1'
                go_wp2_with (first
                  | (go_at_call 23; refine (HWI.out _).mono ?_; rintro e w' ⟨rfl, rfl⟩)
                  | (go_at_call 24; refine (HNU.out _).mono ?_; rintro e w' ⟨rfl, rfl⟩)
                  | (go_at_call 42; refine (HS1.out _).mono ?_; rintro e w' ⟨rfl, rfl⟩)
                  | (go_at_call 42; refine (HS2.out _).mono ?_; rintro e w' ⟨rfl, rfl⟩))
                have HEN := move_end (z := (z : Int)) (x := x) (y := y) (A := none) (c := 0) (b := []) ((HA1.out.far (p := ⟨w.heap.size + 1, 1, none⟩) (by show w.heap.size ≠ w.heap.size + 1; omega) (.int .i64 x)).far (p := ⟨w.heap.size + 1, 2, none⟩) (by show w.heap.size ≠ w.heap.size + 1; omega) (.int .i64 y)) (OwB.nil _ _) ((HB.out.setCell (p := ⟨w.heap.size + 1, 1, none⟩) (by show w.heap.size ≤ w.heap.size + 1; omega) (.int .i64 x)).setCell (p := ⟨w.heap.size + 1, 2, none⟩) (by show w.heap.size ≤ w.heap.size + 1; omega) (.int .i64 y))
                have d0 := HEN.1.cell 0
                have d1 := HEN.1.cell 1
                have d2 := HEN.1.cell 2
                have d3 := HEN.1.cell 3
                simp only [cpy, List.length_nil] at d0 d1 d2 d3
                refine bodyPost_ret (v := .tuple #[.agg #[.int .i64 (z : Int), .int .i64 x, .int .i64 y, .slice none 0 0], .int .i64 3]) (by simp [results, Tryd.results43, go_sem, d0, d1, d2, d3]) rfl ?_
                rw [HMR.out]
                exact ⟨none, 0, rfl, HEN.2.1, HEN.2.2⟩
              · have n2' : ¬ (2 : Int) < (n : Int) := by omega
                have eq2 : mvNR (lw ws) z 2 = (0, 2) := by unfold mvNR; rw [if_neg (fun e => by have := e.2; omega)]
                have eq3 : mvDR (lw ws) z 2 = ([], 2) := by unfold mvDR; rw [if_neg (fun e => z1'' e.1)]
                have HMR : Hid (moveR (lw ws) = (⟨(z : Int), x, 0, []⟩, 2)) := Lib.hid (by rw [hMR]; (try simp only []); rw [eq2]; (try simp only []); rw [eq3]; (try simp only []); (try rfl))
                rw [eW] at hWI
                rw [eN] at hNU
                have HWI := Lib.hid hWI
                have HNU := Lib.hid hNU
                clear hMR hWI hNU eq2 eq3 eW eN hll eq1 hx hs1 n1 n2 z1'
                go_wp2_with (first
                  | (go_at_call 23; refine (HWI.out _).mono ?_; rintro e w' ⟨rfl, rfl⟩)
                  | (go_at_call 24; refine (HNU.out _).mono ?_; rintro e w' ⟨rfl, rfl⟩)
                  | (go_at_call 42; refine (HS1.out _).mono ?_; rintro e w' ⟨rfl, rfl⟩))
                have HEN := move_end (z := (z : Int)) (x := x) (y := 0) (A := none) (c := 0) (b := []) (HA1.out.far (p := ⟨w.heap.size + 1, 1, none⟩) (by show w.heap.size ≠ w.heap.size + 1; omega) (.int .i64 x)) (OwB.nil _ _) (HB.out.setCell (p := ⟨w.heap.size + 1, 1, none⟩) (by show w.heap.size ≤ w.heap.size + 1; omega) (.int .i64 x))
                have d0 := HEN.1.cell 0
                have d1 := HEN.1.cell 1
                have d2 := HEN.1.cell 2
                have d3 := HEN.1.cell 3
                simp only [cpy, List.length_nil] at d0 d1 d2 d3
                refine bodyPost_ret (v := .tuple #[.agg #[.int .i64 (z : Int), .int .i64 x, .int .i64 0, .slice none 0 0], .int .i64 2]) (by simp [results, Tryd.results43, go_sem, d0, d1, d2, d3]) rfl ?_
                rw [HMR.out]
                exact ⟨none, 0, rfl, HEN.2.1, HEN.2.2⟩
            | false =>
              have eq2 : mvNR (lw ws) z 2 = (0, 2) := by unfold mvNR; rw [if_neg (fun e => by have := e.1; rw [eN] at this; cases this)]
              by_cases z1' : z = 1
              · exact absurd z1' hz1
              · have z1'' : ¬ (z : Int) = 1 := by omega
                have eq3 : mvDR (lw ws) z 2 = ([], 2) := by unfold mvDR; rw [if_neg (fun e => z1'' e.1)]
                have HMR : Hid (moveR (lw ws) = (⟨(z : Int), x, 0, []⟩, 2)) := Lib.hid (by rw [hMR]; (try simp only []); rw [eq2]; (try simp only []); rw [eq3]; (try simp only []); (try rfl))
                rw [eW] at hWI
                rw [eN] at hNU
                have HWI := Lib.hid hWI
                have HNU := Lib.hid hNU
                clear hMR hWI hNU eq2 eq3 eW eN hll eq1 hx hs1 n1 z1'
                go_wp2_with (first
                  | (go_at_call 23; refine (HWI.out _).mono ?_; rintro e w' ⟨rfl, rfl⟩)
                  | (go_at_call 24; refine (HNU.out _).mono ?_; rintro e w' ⟨rfl, rfl⟩)
                  | (go_at_call 42; refine (HS1.out _).mono ?_; rintro e w' ⟨rfl, rfl⟩))
                have HEN := move_end (z := (z : Int)) (x := x) (y := 0) (A := none) (c := 0) (b := []) (HA1.out.far (p := ⟨w.heap.size + 1, 1, none⟩) (by show w.heap.size ≠ w.heap.size + 1; omega) (.int .i64 x)) (OwB.nil _ _) (HB.out.setCell (p := ⟨w.heap.size + 1, 1, none⟩) (by show w.heap.size ≤ w.heap.size + 1; omega) (.int .i64 x))
                have d0 := HEN.1.cell 0
                have d1 := HEN.1.cell 1
                have d2 := HEN.1.cell 2
                have d3 := HEN.1.cell 3
                simp only [cpy, List.length_nil] at d0 d1 d2 d3
                refine bodyPost_ret (v := .tuple #[.agg #[.int .i64 (z : Int), .int .i64 x, .int .i64 0, .slice none 0 0], .int .i64 2]) (by simp [results, Tryd.results43, go_sem, d0, d1, d2, d3]) rfl ?_
                rw [HMR.out]
                exact ⟨none, 0, rfl, HEN.2.1, HEN.2.2⟩
          · have n1' : ¬ (1 : Int) < (n : Int) := by omega
            have eq1 : mvWR (lw ws) z = (0, 1) := by unfold mvWR; rw [if_neg (fun e => by have := e.2; omega)]
            have eq2 : mvNR (lw ws) z 1 = (0, 1) := by unfold mvNR; rw [if_neg (fun e => by have := e.2; omega)]
            have eq3 : mvDR (lw ws) z 1 = ([], 1) := by unfold mvDR; rw [if_neg (fun e => by have := e.2; omega)]
            by_cases z1' : z = 1
            · exact absurd z1' hz1
            · have z1'' : ¬ (z : Int) = 1 := by omega
              cases eN : hasN (z : Int) with
              | true =>
                have HMR : Hid (moveR (lw ws) = (⟨(z : Int), 0, 0, []⟩, 1)) := Lib.hid (by rw [hMR]; (try simp only []); rw [eq1]; (try simp only []); rw [eq2]; (try simp only []); rw [eq3]; (try simp only []); (try rfl))
                rw [eW] at hWI
                rw [eN] at hNU
                have HWI := Lib.hid hWI
                have HNU := Lib.hid hNU
                clear hMR hWI hNU eq1 eq2 eq3 eW eN hll n1 z1'
                go_wp2_with (first
                  | (go_at_call 23; refine (HWI.out _).mono ?_; rintro e w' ⟨rfl, rfl⟩)
                  | (go_at_call 24; refine (HNU.out _).mono ?_; rintro e w' ⟨rfl, rfl⟩))
                have HEN := move_end (z := (z : Int)) (x := 0) (y := 0) (A := none) (c := 0) (b := []) HA1.out (OwB.nil _ _) HB.out
                have d0 := HEN.1.cell 0
                have d1 := HEN.1.cell 1
                have d2 := HEN.1.cell 2
                have d3 := HEN.1.cell 3
                simp only [cpy, List.length_nil] at d0 d1 d2 d3
                refine bodyPost_ret (v := .tuple #[.agg #[.int .i64 (z : Int), .int .i64 0, .int .i64 0, .slice none 0 0], .int .i64 1]) (by simp [results, Tryd.results43, go_sem, d0, d1, d2, d3]) rfl ?_
                rw [HMR.out]
                exact ⟨none, 0, rfl, HEN.2.1, HEN.2.2⟩
              | false =>
                have HMR : Hid (moveR (lw ws) = (⟨(z : Int), 0, 0, []⟩, 1)) := Lib.hid (by rw [hMR]; (try simp only []); rw [eq1]; (try simp only []); rw [eq2]; (try simp only []); rw [eq3]; (try simp only []); (try rfl))
                rw [eW] at hWI
                rw [eN] at hNU
                have HWI := Lib.hid hWI
                have HNU := Lib.hid hNU
                clear hMR hWI hNU eq1 eq2 eq3 eW eN hll n1 z1'
                go_wp2_with (first
                  | (go_at_call 23; refine (HWI.out _).mono ?_; rintro e w' ⟨rfl, rfl⟩)
                  | (go_at_call 24; refine (HNU.out _).mono ?_; rintro e w' ⟨rfl, rfl⟩))
                have HEN := move_end (z := (z : Int)) (x := 0) (y := 0) (A := none) (c := 0) (b := []) HA1.out (OwB.nil _ _) HB.out
                have d0 := HEN.1.cell 0
                have d1 := HEN.1.cell 1
                have d2 := HEN.1.cell 2
                have d3 := HEN.1.cell 3
                simp only [cpy, List.length_nil] at d0 d1 d2 d3
                refine bodyPost_ret (v := .tuple #[.agg #[.int .i64 (z : Int), .int .i64 0, .int .i64 0, .slice none 0 0], .int .i64 1]) (by simp [results, Tryd.results43, go_sem, d0, d1, d2, d3]) rfl ?_
                rw [HMR.out]
                exact ⟨none, 0, rfl, HEN.2.1, HEN.2.2⟩
        | false =>
          have eN : hasN (z : Int) = true := by
            have h7 : z = 7 := by
              unfold hasW at eW
              simp at eW; omega
            rw [h7]; rfl
          have z1' : ¬ z = 1 := fun e => by subst e; exact absurd eW (by decide)
          have z1'' : ¬ (z : Int) = 1 := by omega
          have eq1 : mvWR (lw ws) z = (0, 1) := by unfold mvWR; rw [if_neg (fun e => by have := e.1; rw [eW] at this; cases this)]
          by_cases n1 : 1 < n
          · obtain ⟨s2, hs2⟩ : ∃ s2, ws[1]? = some s2 := ⟨_, List.getElem?_eq_getElem (by have := HLen.out; omega)⟩
            have HS2 := Lib.hid (HSM.out 1 s2 hs2)
            have g1 := HC.out 1 s2 hs2
            have n1' : (1 : Int) < (n : Int) := by omega
            have eq2 : mvNR (lw ws) z 1 = (smallR ((lw ws).getD 1 []), 2) := by unfold mvNR; rw [if_pos ⟨eN, by omega⟩]
            obtain ⟨y, hy⟩ : ∃ y, smallR ((lw ws).getD 1 []) = y := ⟨_, rfl⟩
            rw [hy] at HS2 eq2
            have eq3 : mvDR (lw ws) z 2 = ([], 2) := by unfold mvDR; rw [if_neg (fun e => z1'' e.1)]
            have HMR : Hid (moveR (lw ws) = (⟨(z : Int), 0, y, []⟩, 2)) := Lib.hid (by rw [hMR]; (try simp only []); rw [eq1]; (try simp only []); rw [eq2]; (try simp only []); rw [eq3]; (try simp only []); (try rfl))
            rw [eW] at hWI
            rw [eN] at hNU
            have HWI := Lib.hid hWI
            have HNU := Lib.hid hNU
            clear hMR hWI hNU eq1 eq2 eq3 eW eN hll hy hs2 n1 z1'
            go_wp2_with (first
              | (go_at_call 23; refine (HWI.out _).mono ?_; rintro e w' ⟨rfl, rfl⟩)
              | (go_at_call 24; refine (HNU.out _).mono ?_; rintro e w' ⟨rfl, rfl⟩)
              | (go_at_call 42; refine (HS2.out _).mono ?_; rintro e w' ⟨rfl, rfl⟩))
            have HEN := move_end (z := (z : Int)) (x := 0) (y := y) (A := none) (c := 0) (b := []) (HA1.out.far (p := ⟨w.heap.size + 1, 2, none⟩) (by show w.heap.size ≠ w.heap.size + 1; omega) (.int .i64 y)) (OwB.nil _ _) (HB.out.setCell (p := ⟨w.heap.size + 1, 2, none⟩) (by show w.heap.size ≤ w.heap.size + 1; omega) (.int .i64 y))
            have d0 := HEN.1.cell 0
            have d1 := HEN.1.cell 1
            have d2 := HEN.1.cell 2
            have d3 := HEN.1.cell 3
            simp only [cpy, List.length_nil] at d0 d1 d2 d3
            refine bodyPost_ret (v := .tuple #[.agg #[.int .i64 (z : Int), .int .i64 0, .int .i64 y, .slice none 0 0], .int .i64 2]) (by simp [results, Tryd.results43, go_sem, d0, d1, d2, d3]) rfl ?_
            rw [HMR.out]
            exact ⟨none, 0, rfl, HEN.2.1, HEN.2.2⟩
          · have n1' : ¬ (1 : Int) < (n : Int) := by omega
            have eq2 : mvNR (lw ws) z 1 = (0, 1) := by unfold mvNR; rw [if_neg (fun e => by have := e.2; omega)]
            have eq3 : mvDR (lw ws) z 1 = ([], 1) := by unfold mvDR; rw [if_neg (fun e => z1'' e.1)]
            have HMR : Hid (moveR (lw ws) = (⟨(z : Int), 0, 0, []⟩, 1)) := Lib.hid (by rw [hMR]; (try simp only []); rw [eq1]; (try simp only []); rw [eq2]; (try simp only []); rw [eq3]; (try simp only []); (try rfl))
            rw [eW] at hWI
            rw [eN] at hNU
            have HWI := Lib.hid hWI
            have HNU := Lib.hid hNU
            clear hMR hWI hNU eq1 eq2 eq3 eW eN hll n1 z1'
            go_wp2_with (first
              | (go_at_call 23; refine (HWI.out _).mono ?_; rintro e w' ⟨rfl, rfl⟩)
              | (go_at_call 24; refine (HNU.out _).mono ?_; rintro e w' ⟨rfl, rfl⟩))
            have HEN := move_end (z := (z : Int)) (x := 0) (y := 0) (A := none) (c := 0) (b := []) HA1.out (OwB.nil _ _) HB.out
            have d0 := HEN.1.cell 0
            have d1 := HEN.1.cell 1
            have d2 := HEN.1.cell 2
            have d3 := HEN.1.cell 3
            simp only [cpy, List.length_nil] at d0 d1 d2 d3
            refine bodyPost_ret (v := .tuple #[.agg #[.int .i64 (z : Int), .int .i64 0, .int .i64 0, .slice none 0 0], .int .i64 1]) (by simp [results, Tryd.results43, go_sem, d0, d1, d2, d3]) rfl ?_
            rw [HMR.out]
            exact ⟨none, 0, rfl, HEN.2.1, HEN.2.2⟩
end Go.Proofs.YtlephnfepofbbaaDoor
