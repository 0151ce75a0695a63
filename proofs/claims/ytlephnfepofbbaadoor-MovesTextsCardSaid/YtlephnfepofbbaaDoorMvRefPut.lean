/-
  The document's move of words, a put.
-/
import Derived.Test.YtlephnfepofbbaaDoorMvRefMvD
namespace Go.Proofs.YtlephnfepofbbaaDoor
open Go.RowKit Go.Shelf Go.Maps Go.ChangeMaps

theorem put_moveR (l : List (List UInt8)) (h : opOf (l.getD 0 []) = some 1) : moveR l = (⟨1, (mvWR l 1).1, 0, (mvDR l 1 (mvWR l 1).2).1⟩, (mvDR l 1 (mvWR l 1).2).2) := by
  have e : ∀ n, mvNR l 1 n = (0, n) := fun n => by unfold mvNR; rw [if_neg (fun e => by cases e.1)]
  unfold moveR
  rw [h]
  show ((⟨1, (mvWR l 1).1, (mvNR l 1 (mvWR l 1).2).1, (mvDR l 1 (mvNR l 1 (mvWR l 1).2).2).1⟩ : Mv), (mvDR l 1 (mvNR l 1 (mvWR l 1).2).2).2) = _
  rw [e]
theorem own_set_other {B : Nat} {W : World} {v : Value} {bs : List UInt8} {g : Nat} {t : TypeId} {cs : Array Value} (h : OwB B W v bs) (hb : Blk W g t cs) (ht : t ≠ 5) (i : Nat) (u : Value) : OwB B (W.setCell ⟨g, i, none⟩ u) v bs := h.same fun k e _ => by
  obtain ⟨cs', fz, hg⟩ := Lib.ownsRow_kind h k e
  refine Below.heap_setCell _ _ _ _ (fun e2 => ?_)
  have e2 : k = g := e2
  subst e2
  have hb' : W.heap[k]? = _ := hb
  rw [hb'] at hg
  injection hg with hg
  injection hg with _ hg _
  exact ht hg
set_option maxRecDepth 100000 in
set_option maxHeartbeats 16000000 in
theorem rmove_put (A : Option Addr) (n cp : Nat) (ws : List ByteArray) (w : World) (hyes : opOf ((lw ws).getD 0 []) = some 1) (hW : Wds w A n ws) (hn : 0 < n) (hn2 : n ≤ 100000) (hcp : n ≤ cp) :
    Calls Tryd.prog 43 #[.slice A n cp] w (MoveR w (moveR (lw ws))) := by
  obtain ⟨len, ⟨g0, off, rfl, hg0, hc0⟩, hsz⟩ := hW
  have hW : Wds w (some ⟨g0, off, none⟩) n ws := ⟨len, ⟨g0, off, rfl, hg0, hc0⟩, hsz⟩
  obtain ⟨s0, hs0⟩ : ∃ s0, ws[0]? = some s0 := ⟨_, List.getElem?_eq_getElem (by omega)⟩
  have HW := Lib.hid hW
  have HS0 := Lib.hid hs0
  have HLen := Lib.hid len
  have hyes : opOf s0.data.toList = some 1 := by rw [← lw_get ws 0 s0 hs0]; exact hyes
  have HYES := Lib.hid hyes
  clear hyes
  obtain ⟨W0, hW0⟩ : ∃ W0, (w.alloc (.cells #[.int .i64 0, .int .i64 0, .int .i64 0, .slice none 0 0] 44)).alloc (.cells #[.int .i64 0, .int .i64 0, .int .i64 0, .slice none 0 0] 44) = W0 := ⟨_, rfl⟩
  have hB0 : Below w.heap.size w W0 := by rw [← hW0]; exact ((Below.refl _ _).alloc (Nat.le_refl _) _).alloc (by simp) _
  have b1 : Blk W0 w.heap.size 44 #[.int .i64 0, .int .i64 0, .int .i64 0, .slice none 0 0] := by rw [← hW0]; exact (Blk.new w _ _).alloc _
  have b2 : Blk W0 (w.heap.size + 1) 44 #[.int .i64 0, .int .i64 0, .int .i64 0, .slice none 0 0] := by
    rw [← hW0]
    have := Blk.new (w.alloc (.cells #[.int .i64 0, .int .i64 0, .int .i64 0, .slice none 0 0] 44)) 44 #[.int .i64 0, .int .i64 0, .int .i64 0, .slice none 0 0]
    simpa using this
  have HW0 := Lib.hid hW0
  have HB0 := Lib.hid (And.intro hB0 (And.intro b1 b2))
  clear hW hc0 hsz hs0 hW0 hB0 b1 b2 len
  go_enter Tryd.func43, Tryd.ntmps43
  go_wp2_with fail
  rw [HW0.out]
  go_loopw [5] (fun i wr => ∃ (j z : Nat), 1 ≤ j ∧ j ≤ 8 ∧ i = .int .i64 j ∧ Hid (Fnd s0.data.toList j z) ∧ Hid (Blk wr w.heap.size 44 #[.int .i64 0, .int .i64 0, .int .i64 0, .slice none 0 0]) ∧ Hid (Blk wr (w.heap.size + 1) 44 #[.int .i64 (z : Int), .int .i64 0, .int .i64 0, .slice none 0 0]) ∧ Hid (Below w.heap.size w wr)) (fun i _ => 8 - (intOf i).toNat)
  case atStart => exact ⟨1, 0, by omega, by omega, rfl, Lib.hid (.inl ⟨rfl, fun k h1 h2 => by omega⟩), HB0.out.2.1, HB0.out.2.2, HB0.out.1⟩
  case round =>
    obtain ⟨j, z, j1, j8, rfl, HFnd, HA1, HA2, HB⟩ := hrel
    by_cases hlt : j < 8
    · have hlt' : (j : Int) ≤ 7 := by omega
      have hn' : (0 : Int) < (n : Int) := by omega
      obtain ⟨K, hK, hwd⟩ : ∃ K : ByteArray, K.data.toList = wordN j ∧ ∀ V, Calls Tryd.prog 30 #[.int .i64 (j : Int)] V fun e w' => e = .returned (.string K) ∧ Below V.heap.size V w' :=
        ⟨⟨(wordI (j : Int)).toArray⟩, by show (wordI (j : Int)).toArray.toList = _; unfold wordI; simp, fun V => rword_any _ V⟩
      have HWD := Lib.hid hwd
      have hgl : g0 < wr.heap.size := Nat.lt_of_lt_of_le hg0 HB.out.size
      have hcell : wr.cell? ⟨g0, off, none⟩ = some (.string s0) := by
        obtain ⟨_, ⟨g, o, e, hg, hc⟩, _⟩ := HW.out.below HB.out
        injection e with e
        injection e with e1 e2
        subst e1 e2
        exact hc 0 s0 HS0.out
      have k2 := HA2.out.cell 0
      have f2 := HA2.out.frozen 0
      have l2 := HA2.out.lt
      by_cases hw : s0.data.toList = wordN j
      · have hq : (s0.toList == K.toList) = true := by rw [seq_eq, Lib.toList_data, hK]; exact decide_eq_true hw
        have HF2 := Lib.hid (HFnd.out.hit ⟨j1, by omega⟩ hw)
        clear hK hw hwd
        go_wp2_with fail
        go_region_with (go_at_call 30; refine (HWD.out _).mono ?_; rintro e w1 ⟨rfl, hb⟩; have hc1 : w1.cell? ⟨g0, off, none⟩ = some (.string s0) := (hb.cell (p := ⟨g0, off, none⟩) hgl).trans hcell; have hgl1 : g0 < w1.heap.size := Nat.lt_of_lt_of_le hgl hb.size; have q2 : Blk w1 (w.heap.size + 1) 44 #[.int .i64 (z : Int), .int .i64 0, .int .i64 0, .slice none 0 0] := HA2.out.same (hb.block _ l2); have q1 : Blk w1 w.heap.size 44 #[.int .i64 0, .int .i64 0, .int .i64 0, .slice none 0 0] := HA1.out.same (hb.block _ HA1.out.lt); have k3 := q2.cell 0; have f3 := q2.frozen 0; have l3 := q2.lt; have q3 : Below w.heap.size w w1 := HB.out.drew.trans (hb.mono HB.out.size); have HQ := Lib.hid (And.intro q1 (And.intro q2 q3)); clear q1 q2 q3 hb)
        all_goals
          go_wp2_with fail
          go_roundw
          case rel => exact ⟨j + 1, j, by omega, by omega, by go_num, HF2, Lib.hid (HQ.out.1.far (by show w.heap.size ≠ w.heap.size + 1; omega) _), Lib.hid (by simpa using HQ.out.2.1.set_ 0 (.int .i64 (j : Int))), Lib.hid (HQ.out.2.2.setCell (by show w.heap.size ≤ w.heap.size + 1; omega) _)⟩
          case measure => simp [intOf]; omega
      · have hq : (s0.toList == K.toList) = false := by rw [seq_eq, Lib.toList_data, hK]; exact decide_eq_false hw
        have HF2 := Lib.hid (HFnd.out.miss hw)
        clear hK hw hwd
        go_wp2_with fail
        go_region_with (go_at_call 30; refine (HWD.out _).mono ?_; rintro e w1 ⟨rfl, hb⟩; have hc1 : w1.cell? ⟨g0, off, none⟩ = some (.string s0) := (hb.cell (p := ⟨g0, off, none⟩) hgl).trans hcell; have hgl1 : g0 < w1.heap.size := Nat.lt_of_lt_of_le hgl hb.size; have q2 : Blk w1 (w.heap.size + 1) 44 #[.int .i64 (z : Int), .int .i64 0, .int .i64 0, .slice none 0 0] := HA2.out.same (hb.block _ l2); have q1 : Blk w1 w.heap.size 44 #[.int .i64 0, .int .i64 0, .int .i64 0, .slice none 0 0] := HA1.out.same (hb.block _ HA1.out.lt); have k3 := q2.cell 0; have f3 := q2.frozen 0; have l3 := q2.lt; have q3 : Below w.heap.size w w1 := HB.out.drew.trans (hb.mono HB.out.size); have HQ := Lib.hid (And.intro q1 (And.intro q2 q3)); clear q1 q2 q3 hb)
        all_goals
          go_wp2_with fail
          go_roundw
          case rel => exact ⟨j + 1, z, by omega, by omega, by go_num, HF2, Lib.hid HQ.out.1, Lib.hid HQ.out.2.1, Lib.hid HQ.out.2.2⟩
          case measure => simp [intOf]; omega
    · obtain rfl : j = 8 := by omega
      have hlt' : ¬ ((8 : Nat) : Int) ≤ 7 := by omega
      have k0 := HA2.out.cell 0
      have k1 := HA2.out.cell 1
      have k2 := HA2.out.cell 2
      have k3 := HA2.out.cell 3
      have l2 := HA2.out.lt
      rcases HFnd.out.end_ with ⟨rfl, hno⟩ | ⟨z1, z7, hop⟩
      · exact absurd (HYES.out.symm.trans hno) (by simp)
      · obtain rfl : z = 1 := by
          have := HYES.out
          rw [hop] at this
          exact Option.some.inj this
        have hA2 : Blk wr (w.heap.size + 1) 44 #[.int .i64 1, .int .i64 0, .int .i64 0, .slice none 0 0] := HA2.out
        clear z1 z7 hop HFnd HA2 k0 k1 k2 k3 l2
        have HA2 := Lib.hid hA2
        have e0 := HA1.out.cell 0
        have e1 := HA1.out.cell 1
        have e2 := HA1.out.cell 2
        have e3 := HA1.out.cell 3
        have e4 := HA1.out.frozen 0
        have e5 := HA1.out.frozen 1
        have e6 := HA1.out.frozen 2
        have e7 := HA1.out.frozen 3
        have l1 := HA1.out.lt
        have k0 := hA2.cell 0
        have k1 := hA2.cell 1
        have k2 := hA2.cell 2
        have k3 := hA2.cell 3
        have l2 := hA2.lt
        have f1 := hA2.frozen 1
        clear hA2
        have hWI : ∀ X, Calls Tryd.prog 23 #[.int .i64 1] X fun e w' => e = .returned (.bool true) ∧ X = w' := fun X => rwire_any 1 X
        have hNU : ∀ X, Calls Tryd.prog 24 #[.int .i64 1] X fun e w' => e = .returned (.bool false) ∧ X = w' := fun X => rnumber_any 1 X
        have HWI := Lib.hid hWI
        have HNU := Lib.hid hNU
        clear hWI hNU
        have hMR := put_moveR (lw ws) (by rw [lw_get ws 0 s0 HS0.out]; exact HYES.out)
        have hgl : g0 < wr.heap.size := Nat.lt_of_lt_of_le hg0 HB.out.size
        have hgn : ¬ g0 = w.heap.size + 1 := by omega
        have hgn2 : ¬ w.heap.size + 1 = g0 := by omega
        have hll : (lw ws).length = n := by rw [lw_len]; exact HLen.out
        have hcw : ∀ V, Below w.heap.size w V → ∀ i s, ws[i]? = some s → V.cell? ⟨g0, off + i, none⟩ = some (.string s) := fun V hV => by
          obtain ⟨_, ⟨g, o, e, hg, hc⟩, _⟩ := HW.out.below hV
          injection e with e
          injection e with e1 e2
          subst e1 e2
          exact hc
        have hsmall : ∀ i s, ws[i]? = some s → ∀ X, Calls Tryd.prog 42 #[.string s] X fun e w' => e = .returned (.int .i64 (smallR ((lw ws).getD i []))) ∧ X = w' := fun i s hs X => by
          rw [lw_get ws i s hs]
          exact rsmall_any s (HW.out.sz s (List.mem_of_getElem? hs)) X
        have HCW := Lib.hid hcw
        have HSM := Lib.hid hsmall
        clear hcw hsmall
        by_cases n1 : 1 < n
        · obtain ⟨s1, hs1⟩ : ∃ s1, ws[1]? = some s1 := ⟨_, List.getElem?_eq_getElem (by have := HLen.out; omega)⟩
          have HS1 := Lib.hid (HSM.out 1 s1 hs1)
          have g1 := HCW.out wr HB.out 1 s1 hs1
          have n1' : (1 : Int) < (n : Int) := by omega
          have eq1 : mvWR (lw ws) 1 = (smallR ((lw ws).getD 1 []), 2) := by unfold mvWR; rw [if_pos ⟨rfl, by omega⟩]
          obtain ⟨x, hx⟩ : ∃ x, smallR ((lw ws).getD 1 []) = x := ⟨_, rfl⟩
          rw [hx] at HS1 eq1
          rw [eq1] at hMR
          by_cases n2 : 2 < n
          · obtain ⟨s2, hs2⟩ : ∃ s2, ws[2]? = some s2 := ⟨_, List.getElem?_eq_getElem (by have := HLen.out; omega)⟩
            have g2 := HCW.out wr HB.out 2 s2 hs2
            have HS2 := Lib.hid hs2
            have n2' : (2 : Int) < (n : Int) := by omega
            have hMR2 : moveR (lw ws) = (⟨1, x, 0, unhexR s2.data.toList⟩, 3) := by
              rw [hMR]
              simp only []
              unfold mvDR
              rw [if_pos ⟨rfl, by omega⟩, lw_get ws 2 s2 hs2]
            have HMR := Lib.hid hMR2
            have hls : s2.size ≤ 100000 := HW.out.sz s2 (List.mem_of_getElem? hs2)
            obtain ⟨L, hL⟩ : ∃ L, s2.size = L := ⟨_, rfl⟩
            have hl : s2.data.toList.length = L := by rw [← Lib.size_eq, hL]
            have HLL := Lib.hid hl
            rw [hL] at hls
            have HX1 := Lib.hid ((HA1.out.far (p := ⟨w.heap.size + 1, 1, none⟩) (by show w.heap.size ≠ w.heap.size + 1; omega) (.int .i64 x)))
            have HX2 : Hid (Blk (wr.setCell ⟨w.heap.size + 1, 1, none⟩ (.int .i64 x)) (w.heap.size + 1) 44 #[.int .i64 1, .int .i64 x, .int .i64 0, .slice none 0 0]) := Lib.hid (by simpa using HA2.out.set_ 1 (.int .i64 x))
            have HXB := Lib.hid (HB.out.setCell (p := ⟨w.heap.size + 1, 1, none⟩) (by show w.heap.size ≤ w.heap.size + 1; omega) (.int .i64 x))
            clear hMR hMR2 hll eq1 hx hs1 n1 n2 hs2 hl
            go_wp2_with (first
              | (go_at_call 23; refine (HWI.out _).mono ?_; rintro e w' ⟨rfl, rfl⟩)
              | (go_at_call 24; refine (HNU.out _).mono ?_; rintro e w' ⟨rfl, rfl⟩)
              | (go_at_call 42; refine (HS1.out _).mono ?_; rintro e w' ⟨rfl, rfl⟩))
            clear e0 e1 e2 e3 e4 e5 e6 e7 k0 k1 k2 k3 f1 g1 g2 l1 l2 hgl
            go_loopw [9] (fun i wr => ∃ (j m : Nat) (b : List UInt8) (A : Option Addr) (cc : Nat), j ≤ L + 1 ∧ i = .int .i64 j ∧ Hid (b ++ unhexR (s2.data.toList.drop j) = unhexR s2.data.toList) ∧ Hid (b.length = m ∧ m ≤ j) ∧ Hid (Blk wr (w.heap.size + 1) 44 #[.int .i64 1, .int .i64 x, .int .i64 0, .slice A m cc]) ∧ Hid (OwB w.heap.size wr (.slice A m cc) b) ∧ Hid (Blk wr w.heap.size 44 #[.int .i64 0, .int .i64 0, .int .i64 0, .slice none 0 0]) ∧ Hid (Below w.heap.size w wr)) (fun i _ => L + 2 - (intOf i).toNat)
            case atStart => exact ⟨0, 0, [], none, 0, Nat.zero_le _, rfl, Lib.hid (by simp), Lib.hid ⟨rfl, Nat.le_refl _⟩, HX2.out, Lib.hid (OwB.nil _ _), HX1.out, HXB.out⟩
            case round =>
              obtain ⟨j, m, b, A, cc, hj, rfl, HU, HM, HP, HO, HR, HBv⟩ := hrel
              have hgl : g0 < wr.heap.size := Nat.lt_of_lt_of_le hg0 HBv.out.size
              have g2 := HCW.out wr HBv.out 2 s2 HS2.out
              have k0 := HP.out.cell 0
              have k1 := HP.out.cell 1
              have k2 := HP.out.cell 2
              have k3 := HP.out.cell 3
              have l2 := HP.out.lt
              have f3 := HP.out.frozen 3
              have j0 : (0 : Int) ≤ (j : Int) := by omega
              have j1 : (0 : Int) ≤ (j : Int) + 1 := by omega
              have s1' : IntKind.i64.wrap ((j : Int) + 1) = (j : Int) + 1 := IntWalk.i64_in _ (by omega)
              have s2' : IntKind.i64.wrap ((j : Int) + 2) = (j : Int) + 2 := IntWalk.i64_in _ (by omega)
              by_cases hlt : j + 1 < L
              · have hlt' : (j : Int) + 1 < (L : Int) := by omega
                have hlt2 : (j : Int) < (L : Int) := by omega
                have hL2 := HLL.out
                obtain ⟨c, hc⟩ : ∃ c, s2.data.toList[j]? = some c := ⟨_, List.getElem?_eq_getElem (by omega)⟩
                obtain ⟨d, hd⟩ : ∃ d, s2.data.toList[j + 1]? = some d := ⟨_, List.getElem?_eq_getElem (by omega)⟩
                have hdrop : s2.data.toList.drop j = c :: d :: s2.data.toList.drop (j + 2) := by
                  obtain ⟨p1, p2⟩ := List.getElem?_eq_some_iff.1 hc
                  obtain ⟨q1, q2⟩ := List.getElem?_eq_some_iff.1 hd
                  rw [List.drop_eq_getElem_cons p1, p2, List.drop_eq_getElem_cons q1, q2]
                have i1 := str_run s2 j c hc (j : Int) rfl
                have i2 := str_run s2 (j + 1) d hd ((j : Int) + 1) (by omega)
                have HU2 : Hid (b ++ (pairR c d ++ unhexR (s2.data.toList.drop (j + 2))) = unhexR s2.data.toList) := Lib.hid (by
                  have h := HU.out
                  rw [hdrop] at h
                  exact h)
                have hn1 := fun X => rnibble_any c X
                have hn2 := fun X => rnibble_any d X
                obtain ⟨X, hX⟩ : ∃ X, nibR c = X := ⟨_, rfl⟩
                obtain ⟨Y, hY⟩ : ∃ Y, nibR d = Y := ⟨_, rfl⟩
                rw [hX] at hn1
                rw [hY] at hn2
                obtain ⟨cn, hcn⟩ : ∃ cn : Nat, c.toNat = cn := ⟨_, rfl⟩
                obtain ⟨dn, hdn⟩ : ∃ dn : Nat, d.toNat = dn := ⟨_, rfl⟩
                rw [hcn] at hn1 i1
                rw [hdn] at hn2 i2
                have HN1 := Lib.hid hn1
                have HN2 := Lib.hid hn2
                clear hcn hdn hn1 hn2 hdrop hc hd hL2 hlt HU
                by_cases hx : X < 16
                · have hx' : (X : Int) < 16 := by omega
                  by_cases hy : Y < 16
                  · have hy' : (Y : Int) < 16 := by omega
                    have HU3 : Hid ((b ++ [UInt8.ofNat (16 * X + Y)]) ++ unhexR (s2.data.toList.drop (j + 2)) = unhexR s2.data.toList) := Lib.hid (by
                      have h := HU2.out
                      unfold pairR at h
                      rw [hX, hY, if_pos ⟨hx, hy⟩] at h
                      rw [List.append_assoc]; exact h)
                    obtain ⟨z, hz⟩ : ∃ z, UInt8.ofNat (16 * X + Y) = z := ⟨_, rfl⟩
                    rw [hz] at HU3
                    have hzv : (z.toNat : Int) = 16 * (X : Int) + (Y : Int) := by rw [← hz, UInt8.toNat_ofNat']; omega
                    have w1' : IntKind.u8.wrap (16 * (X : Int)) = 16 * (X : Int) := IntWalk.u8_in _ (by omega)
                    have w2' : IntKind.u8.wrap (16 * (X : Int) + (Y : Int)) = (z.toNat : Int) := by rw [hzv]; exact IntWalk.u8_in _ (by omega)
                    clear hX hY hz hzv hx hy HU2
                    go_wp2_with (first
                      | (go_at_call 54; with_reducible (refine (HN1.out _).mono ?_); rintro e w' ⟨rfl, rfl⟩)
                      | (go_at_call 54; with_reducible (refine (HN2.out _).mono ?_); rintro e w' ⟨rfl, rfl⟩)
                      | (at_builtin; refine app_one rfl _ _ rfl w.heap.size _ b rfl (HO.out.alloc _) z _ rfl (cell_of_row _ _ 0 _ _ (0, 0) (heap_alloc_new wr _)) (by have := HM.out; omega) (by have := HBv.out.size; simp; omega) ?_; intro v1 w1 h1 hb1; obtain ⟨A1, c1, rfl, _, _⟩ := h1.form; have q1 := hb1.blk (HP.out.alloc _) (by decide); have H1 := Lib.hid h1; have HQ1 := Lib.hid q1; have HB1 := Lib.hid ((HBv.out.alloc HBv.out.size _).trans hb1.b); have HR1 := Lib.hid (hb1.blk (HR.out.alloc _) (by decide)); have q3 := q1.cell 3; have q4 := q1.frozen 3; have q5 := q1.lt; clear h1 hb1 q1))
                    go_roundw
                    case rel => exact ⟨j + 2, (b ++ [z]).length, b ++ [z], A1, c1, by omega, by go_num, HU3, Lib.hid ⟨rfl, by have := HM.out; simp; omega⟩, Lib.hid (by simpa using HQ1.out.set_ 3 (.slice A1 (b ++ [z]).length c1)), Lib.hid (own_set_other H1.out HQ1.out (by decide) _ _), Lib.hid (HR1.out.far (by show w.heap.size ≠ w.heap.size + 1; omega) _), Lib.hid (HB1.out.setCell (by show w.heap.size ≤ w.heap.size + 1; omega) _)⟩
                    case measure => simp [intOf]; omega
                  · have hy' : ¬ (Y : Int) < 16 := by omega
                    have HU3 : Hid (b ++ unhexR (s2.data.toList.drop (j + 2)) = unhexR s2.data.toList) := Lib.hid (by
                      have h := HU2.out
                      unfold pairR at h
                      rw [hX, hY, if_neg (fun e => hy e.2)] at h
                      exact h)
                    clear hX hY hx hy HU2
                    go_wp2_with (first
                      | (go_at_call 54; with_reducible (refine (HN1.out _).mono ?_); rintro e w' ⟨rfl, rfl⟩)
                      | (go_at_call 54; with_reducible (refine (HN2.out _).mono ?_); rintro e w' ⟨rfl, rfl⟩))
                    go_roundw
                    case rel => exact ⟨j + 2, m, b, A, cc, by omega, by go_num, HU3, Lib.hid ⟨HM.out.1, by have := HM.out; omega⟩, HP.out, HO.out, HR.out, HBv.out⟩
                    case measure => simp [intOf]; omega
                · have hx' : ¬ (X : Int) < 16 := by omega
                  have HU3 : Hid (b ++ unhexR (s2.data.toList.drop (j + 2)) = unhexR s2.data.toList) := Lib.hid (by
                    have h := HU2.out
                    unfold pairR at h
                    rw [hX, hY, if_neg (fun e => hx e.1)] at h
                    exact h)
                  clear hX hY hx HU2
                  go_wp2_with (first
                    | (go_at_call 54; with_reducible (refine (HN1.out _).mono ?_); rintro e w' ⟨rfl, rfl⟩)
                    | (go_at_call 54; with_reducible (refine (HN2.out _).mono ?_); rintro e w' ⟨rfl, rfl⟩))
                  go_roundw
                  case rel => exact ⟨j + 2, m, b, A, cc, by omega, by go_num, HU3, Lib.hid ⟨HM.out.1, by have := HM.out; omega⟩, HP.out, HO.out, HR.out, HBv.out⟩
                  case measure => simp [intOf]; omega
              · have hlt' : ¬ (j : Int) + 1 < (L : Int) := by omega
                have HBE : Hid (b = unhexR s2.data.toList) := Lib.hid (by
                  have h := HU.out
                  have hl := HLL.out
                  have hd : unhexR (s2.data.toList.drop j) = [] := by
                    have hlen : (s2.data.toList.drop j).length ≤ 1 := by rw [List.length_drop]; omega
                    generalize s2.data.toList.drop j = r at hlen
                    cases r with
                    | nil => rfl
                    | cons a r => cases r with
                      | nil => rfl
                      | cons a2 r => simp at hlen
                  rw [hd, List.append_nil] at h
                  exact h)
                have e0 := HR.out.cell 0
                have e1 := HR.out.cell 1
                have e2 := HR.out.cell 2
                have e3 := HR.out.cell 3
                have e4 := HR.out.frozen 0
                have e5 := HR.out.frozen 1
                have e6 := HR.out.frozen 2
                have e7 := HR.out.frozen 3
                have l1 := HR.out.lt
                go_wp2_with fail
                have HEN := move_end (z := 1) (x := x) (y := 0) (A := A) (c := cc) (b := b) HR.out (by rw [HM.out.1]; exact HO.out) HBv.out
                have d0 := HEN.1.cell 0
                have d1 := HEN.1.cell 1
                have d2 := HEN.1.cell 2
                have d3 := HEN.1.cell 3
                simp only [cpy] at d0 d1 d2 d3
                rw [HM.out.1] at d0 d1 d2 d3
                refine bodyPost_ret (v := .tuple #[.agg #[.int .i64 1, .int .i64 x, .int .i64 0, .slice A m cc], .int .i64 3]) (by simp [results, Tryd.results43, go_sem, d0, d1, d2, d3]) rfl ?_
                rw [HMR.out, ← HBE.out, ← HM.out.1]
                exact ⟨A, cc, rfl, HEN.2.1, HEN.2.2⟩
          · have n2' : ¬ (2 : Int) < (n : Int) := by omega
            have hMR2 : moveR (lw ws) = (⟨1, x, 0, []⟩, 2) := by
              rw [hMR]
              simp only []
              unfold mvDR
              rw [if_neg (fun e => by have := e.2; omega)]
            have HMR := Lib.hid hMR2
            clear hMR hMR2 hll eq1 hx hs1 n1 n2
            go_wp2_with (first
              | (go_at_call 23; refine (HWI.out _).mono ?_; rintro e w' ⟨rfl, rfl⟩)
              | (go_at_call 24; refine (HNU.out _).mono ?_; rintro e w' ⟨rfl, rfl⟩)
              | (go_at_call 42; refine (HS1.out _).mono ?_; rintro e w' ⟨rfl, rfl⟩))
            have HEN := move_end (z := 1) (x := x) (y := 0) (A := none) (c := 0) (b := []) (HA1.out.far (p := ⟨w.heap.size + 1, 1, none⟩) (by show w.heap.size ≠ w.heap.size + 1; omega) (.int .i64 x)) (OwB.nil _ _) (HB.out.setCell (p := ⟨w.heap.size + 1, 1, none⟩) (by show w.heap.size ≤ w.heap.size + 1; omega) (.int .i64 x))
            have d0 := HEN.1.cell 0
            have d1 := HEN.1.cell 1
            have d2 := HEN.1.cell 2
            have d3 := HEN.1.cell 3
            simp only [cpy, List.length_nil] at d0 d1 d2 d3
            refine bodyPost_ret (v := .tuple #[.agg #[.int .i64 1, .int .i64 x, .int .i64 0, .slice none 0 0], .int .i64 2]) (by simp [results, Tryd.results43, go_sem, d0, d1, d2, d3]) rfl ?_
            rw [HMR.out]
            exact ⟨none, 0, rfl, HEN.2.1, HEN.2.2⟩
        · have n1' : ¬ (1 : Int) < (n : Int) := by omega
          have eq1 : mvWR (lw ws) 1 = (0, 1) := by unfold mvWR; rw [if_neg (fun e => by have := e.2; omega)]
          rw [eq1] at hMR
          have hMR2 : moveR (lw ws) = (⟨1, 0, 0, []⟩, 1) := by
            rw [hMR]
            simp only []
            unfold mvDR
            rw [if_neg (fun e => by have := e.2; omega)]
          have HMR := Lib.hid hMR2
          clear hMR hMR2 hll eq1 n1
          go_wp2_with (first
            | (go_at_call 23; refine (HWI.out _).mono ?_; rintro e w' ⟨rfl, rfl⟩)
            | (go_at_call 24; refine (HNU.out _).mono ?_; rintro e w' ⟨rfl, rfl⟩))
          have HEN := move_end (z := 1) (x := 0) (y := 0) (A := none) (c := 0) (b := []) HA1.out (OwB.nil _ _) HB.out
          have d0 := HEN.1.cell 0
          have d1 := HEN.1.cell 1
          have d2 := HEN.1.cell 2
          have d3 := HEN.1.cell 3
          simp only [cpy, List.length_nil] at d0 d1 d2 d3
          refine bodyPost_ret (v := .tuple #[.agg #[.int .i64 1, .int .i64 0, .int .i64 0, .slice none 0 0], .int .i64 1]) (by simp [results, Tryd.results43, go_sem, d0, d1, d2, d3]) rfl ?_
          rw [HMR.out]
          exact ⟨none, 0, rfl, HEN.2.1, HEN.2.2⟩
end Go.Proofs.YtlephnfepofbbaaDoor
