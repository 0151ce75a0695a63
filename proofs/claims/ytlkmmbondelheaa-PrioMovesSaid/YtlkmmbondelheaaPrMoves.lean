/-
  PrioMoves.
-/
import Derived.Test.YtlkmmbondelheaaPrLaw3
import Derived.Deep.RegionWith
import Derived.Deep.QuietTactic
import Derived.BigQuiet
namespace Go.Proofs.Ytlkmmbondelheaa
open Go.RowKit Go.Maps Go.ChangeMaps Go.Shelf

set_option maxHeartbeats 16000000 in
set_option maxRecDepth 100000 in
theorem moves_any (w : World) (A : Option Addr) (c : Nat) (l : List Cal) (id z : Int) (hid : i64 id) (hz : i64 z) (hn : l.length ≤ 60) (hA : ArgOps w A l) :
    Calls Try.prog 6 #[.slice A l.length c, .int .i64 id, .int .i64 z] w fun e w' => e = .returned (.bool true) ∧ Below w.heap.size w w' := by
  have HA := Lib.hid hA
  have hi0 : i64 0 := by unfold i64; omega
  clear hA
  go_enter Try.func6, Try.ntmps6
  go_wp2_with fail
  refine (alive_any w).mono ?_
  rintro e w1 ⟨rfl, hb1⟩
  have HB1 := Lib.hid hb1
  clear hb1
  go_wp2_with fail
  refine (ps_new HB1.out 8 (by omega) (by omega)).mono ?_
  rintro e w2 ⟨h, rfl, hP⟩
  have H2 := Lib.hid hP
  clear hP
  go_wp2_with fail
  go_loopw [10] (fun i wr => ∃ k : Nat, i = .int .i64 (k : Int) ∧ k ≤ l.length ∧ ∃ L, PS w wr h 8 L ∧ L.length ≤ k) (fun i _ => l.length - (intOf i).toNat)
  case atStart => exact ⟨0, rfl, Nat.zero_le _, _, H2.out, by simp⟩
  case round =>
    obtain ⟨k, rfl, hk, L, hP, hl⟩ := hrel
    by_cases hlt : k < l.length
    · obtain ⟨b, off, x, rfl, hbl, hz, hok, x0, x1, x2, x3, x4⟩ := HA.out.at_ hP.b hlt
      have b0 : (0 : Int) ≤ (k : Int) := by omega
      have b1 : (k : Int) < (l.length : Int) := by omega
      have HP := Lib.hid (And.intro (ps_put hP.drew x.pr x.id x.fl 0 hok.pr hok.id hok.fl hi0 (by omega)) hl)
      clear hP hz hok hl
      go_wp2_with fail
      go_region_with (go_at_call 10; refine HP.out.1.mono ?_; rintro e w3 ⟨rfl, bk, hP3⟩; have H3 := Lib.hid (And.intro hP3 (show _ ≤ k + 1 from Nat.le_trans (putS_len 8 L x.pr x.id x.fl 0 bk) (by have := HP.out.2; omega))); clear hP3)
      go_wp2_with fail
      all_goals exact ⟨⟨k + 1, by go_num, by omega, _, H3.out⟩, by simp [intOf]; omega⟩
    · obtain rfl : k = l.length := by omega
      have b1 : ¬ ((l.length : Int) < (l.length : Int)) := by omega
      have hlen : L.length ≤ 60 := by omega
      have HL := Lib.hid hlen
      have HH := Lib.hid (ps_has hP hid)
      have HF := Lib.hid hP.facts
      clear hP hlen hl
      cases hh : hasI L id with
      | false =>
        have ME := moveE_not (L := L) (k := id) (many := 8) (p := z) (.inl hh)
        rw [hh] at HH
        go_wp2_with fail
        refine HH.out.mono ?_
        rintro e w4 ⟨rfl, hP4⟩
        have H4 := Lib.hid (hP4.blk 44 #[.int .i64 (hasX L id).id, .int .i64 (hasX L id).fl, .int .i64 (hasX L id).ct])
        have hL := Lib.hid (ps_len H4.out)
        have hM := Lib.hid (ps_move H4.out (p := z) hid)
        clear hP4
        go_wp2_with (first
          | (go_at_call 21; refine hL.out.mono ?_; rintro e w' ⟨rfl, rfl⟩)
          | fail)
        refine hM.out.mono ?_
        rintro e w5 ⟨rfl, hP5⟩
        rw [ME.1]
        rw [ME.2] at hP5
        have H5 := Lib.hid hP5
        have hL5 := Lib.hid (ps_len hP5)
        clear hP5
        go_wp2_with (first
          | (go_at_call 21; refine hL5.out.mono ?_; rintro e w' ⟨rfl, rfl⟩)
          | fail)
        go_ret
        exact ⟨rfl, H5.out.b⟩
      | true =>
        rw [hh] at HH
        by_cases z0 : z < 0
        · have ME := moveE_not (L := L) (k := id) (many := 8) (p := z) (.inr (.inl z0))
          go_wp2_with fail
          refine HH.out.mono ?_
          rintro e w4 ⟨rfl, hP4⟩
          have H4 := Lib.hid (hP4.blk 44 #[.int .i64 (hasX L id).id, .int .i64 (hasX L id).fl, .int .i64 (hasX L id).ct])
          have hL := Lib.hid (ps_len H4.out)
          have hM := Lib.hid (ps_move H4.out (p := z) hid)
          clear hP4
          go_wp2_with (first
            | (go_at_call 21; refine hL.out.mono ?_; rintro e w' ⟨rfl, rfl⟩)
            | fail)
          refine hM.out.mono ?_
          rintro e w5 ⟨rfl, hP5⟩
          rw [ME.1]
          rw [ME.2] at hP5
          have H5 := Lib.hid hP5
          have hL5 := Lib.hid (ps_len hP5)
          clear hP5
          go_wp2_with (first
            | (go_at_call 21; refine hL5.out.mono ?_; rintro e w' ⟨rfl, rfl⟩)
            | fail)
          go_ret
          exact ⟨rfl, H5.out.b⟩
        by_cases z7 : 7 < z
        · have ME := moveE_not (L := L) (k := id) (many := 8) (p := z) (.inr (.inr (by omega)))
          have z0' : 0 ≤ z := by omega
          go_wp2_with fail
          refine HH.out.mono ?_
          rintro e w4 ⟨rfl, hP4⟩
          have H4 := Lib.hid (hP4.blk 44 #[.int .i64 (hasX L id).id, .int .i64 (hasX L id).fl, .int .i64 (hasX L id).ct])
          have hL := Lib.hid (ps_len H4.out)
          have hM := Lib.hid (ps_move H4.out (p := z) hid)
          clear hP4
          go_wp2_with (first
            | (go_at_call 21; refine hL.out.mono ?_; rintro e w' ⟨rfl, rfl⟩)
            | fail)
          refine hM.out.mono ?_
          rintro e w5 ⟨rfl, hP5⟩
          rw [ME.1]
          rw [ME.2] at hP5
          have H5 := Lib.hid hP5
          have hL5 := Lib.hid (ps_len hP5)
          clear hP5
          go_wp2_with (first
            | (go_at_call 21; refine hL5.out.mono ?_; rintro e w' ⟨rfl, rfl⟩)
            | fail)
          go_ret
          exact ⟨rfl, H5.out.b⟩
        · obtain ⟨p, rfl⟩ : ∃ p : Nat, z = (p : Int) := ⟨z.toNat, by omega⟩
          have hp : p < 8 := by omega
          have ME := moveE_of hh hp
          have HM2 := Lib.hid (move_has (p := p) hh HF.out.2.2)
          have HML := Lib.hid (move_len (p := p) hh HF.out.2.2)
          have hX := HF.out.2.1 _ (hasX_mem hh).1
          have HX := Lib.hid hX.pr
          clear hX
          by_cases ep : (hasX L id).pr = p
          · rw [ep] at HH
            go_wp2_with fail
            refine HH.out.mono ?_
            rintro e w4 ⟨rfl, hP4⟩
            have H4 := Lib.hid (hP4.blk 44 #[.int .i64 (hasX L id).id, .int .i64 (hasX L id).fl, .int .i64 (hasX L id).ct])
            have hL := Lib.hid (ps_len H4.out)
            have hM := Lib.hid (ps_move H4.out (p := (p : Int)) hid)
            obtain ⟨xa, exa⟩ : ∃ xa, xa = w4.heap.size := ⟨_, rfl⟩
            obtain ⟨W4, eW4⟩ : ∃ W, W = w4.alloc (.cells #[.int .i64 (hasX L id).id, .int .i64 (hasX L id).fl, .int .i64 (hasX L id).ct] 44) := ⟨_, rfl⟩
            rw [← exa, ← eW4] at H4
            rw [← eW4] at hL
            rw [← eW4, ← exa] at hM
            have EW := Lib.hid (And.intro exa eW4)
            clear hP4 exa eW4
            go_wp2_with (first
              | (rw [← EW.out.2]; go_at_call 21; refine hL.out.mono ?_; rintro e w' ⟨rfl, rfl⟩)
              | fail)
            rw [← EW.out.1]
            refine hM.out.mono ?_
            rintro e w5 ⟨rfl, hP5⟩
            rw [ME.1]
            rw [ME.2] at hP5
            have hLi := Lib.hid (ps_list hP5 (p : Int))
            obtain ⟨n1, en1⟩ : ∃ n, n = (listP 8 (moveL L id p) p).length := ⟨_, rfl⟩
            rw [← en1] at hLi
            have EN := Lib.hid en1
            clear hP5 en1
            go_wp2_with fail
            refine hLi.out.mono ?_
            rintro e w6 ⟨A1, c1, rfl, hP6⟩
            have HH6 := Lib.hid (ps_has hP6 hid)
            rw [HM2.out.1, HM2.out.2] at HH6
            dsimp only at HH6
            clear hP6
            go_wp2_with fail
            refine HH6.out.mono ?_
            rintro e w7 ⟨rfl, hP7⟩
            have hP8 := hP7.blk 44 #[.int .i64 (hasX L id).id, .int .i64 (hasX L id).fl, .int .i64 (hasX L id).ct]
            obtain ⟨ya, eya⟩ : ∃ ya, ya = w7.heap.size := ⟨_, rfl⟩
            obtain ⟨W7, eW7⟩ : ∃ W, W = w7.alloc (.cells #[.int .i64 (hasX L id).id, .int .i64 (hasX L id).fl, .int .i64 (hasX L id).ct] 44) := ⟨_, rfl⟩
            rw [← eya, ← eW7] at hP8
            have H8 := Lib.hid hP8
            have EW7 := Lib.hid (And.intro eya eW7)
            have hL8 := Lib.hid (fun n => by have := ps_len (hP8.drewN n); rw [HML.out] at this; exact this.mono fun e w' ⟨he, hw⟩ => And.intro he hw.symm)
            have hyb := hP8.atBlk List.mem_cons_self
            have hxb := hP8.atBlk (List.mem_cons_of_mem _ (List.mem_cons_of_mem _ List.mem_cons_self))
            have y0 : W7.cell? ⟨ya, 0, none⟩ = some (.int .i64 (hasX L id).id) := hyb.cell 0
            have y1 : W7.cell? ⟨ya, 1, none⟩ = some (.int .i64 (hasX L id).fl) := hyb.cell 1
            have y2 : W7.cell? ⟨ya, 2, none⟩ = some (.int .i64 (hasX L id).ct) := hyb.cell 2
            have x0 : W7.cell? ⟨xa, 0, none⟩ = some (.int .i64 (hasX L id).id) := hxb.cell 0
            have x1 : W7.cell? ⟨xa, 1, none⟩ = some (.int .i64 (hasX L id).fl) := hxb.cell 1
            have x2 : W7.cell? ⟨xa, 2, none⟩ = some (.int .i64 (hasX L id).ct) := hxb.cell 2
            clear hP7 hP8 eya eW7 hyb hxb
            go_wp2_with fail
            rw [← EW7.out.2, ← EW7.out.1]
            go_big_quiet (first | (go_at_call 21; refine Calls.quiet_of_same (hL8.out _)) | fail)
            go_wp2_with fail
            have hM9 := Lib.hid (ps_move (H8.out.drewN nq) (k := id) (p := (p : Int)) hid)
            have ME9 := moveE_of HM2.out.1 hp
            clear y0 y1 y2 x0 x1 x2
            refine hM9.out.mono ?_
            rintro e w9 ⟨rfl, hP9⟩
            rw [ME9.1]
            rw [ME9.2] at hP9
            have hLiA := Lib.hid (ps_list hP9 (p : Int))
            obtain ⟨n2, en2⟩ : ∃ n, n = (listP 8 (moveL (moveL L id p) id p) p).length := ⟨_, rfl⟩
            rw [← en2] at hLiA
            clear hP9 en2
            go_wp2_with fail
            refine hLiA.out.mono ?_
            rintro e wa ⟨A2, c2, rfl, hPa⟩
            have Ha := Lib.hid hPa
            clear hPa
            go_wp2_with fail
            go_big_quiet (fail)
            go_wp2_with fail
            go_ret
            exact ⟨rfl, (Ha.out.drewN _).b⟩
          · have ne : (((hasX L id).pr : Int) == (p : Int)) = false := by simp; omega
            have ne' : (((hasX L id).pr : Int) != (p : Int)) = true := by simp; omega
            have ER : listP 8 (moveL L id p) p = ofP (cutL L id) p ++ [{ hasX L id with pr := p }] := by rw [listP_of hp, move_last hh HF.out.2.2 ep]
            go_wp2_with fail
            refine HH.out.mono ?_
            rintro e w4 ⟨rfl, hP4⟩
            have H4 := Lib.hid (hP4.blk 44 #[.int .i64 (hasX L id).id, .int .i64 (hasX L id).fl, .int .i64 (hasX L id).ct])
            have hL := Lib.hid (ps_len H4.out)
            have hM := Lib.hid (ps_move H4.out (p := (p : Int)) hid)
            obtain ⟨xa, exa⟩ : ∃ xa, xa = w4.heap.size := ⟨_, rfl⟩
            obtain ⟨W4, eW4⟩ : ∃ W, W = w4.alloc (.cells #[.int .i64 (hasX L id).id, .int .i64 (hasX L id).fl, .int .i64 (hasX L id).ct] 44) := ⟨_, rfl⟩
            rw [← exa, ← eW4] at H4
            rw [← eW4] at hL
            rw [← eW4, ← exa] at hM
            have EW := Lib.hid (And.intro exa eW4)
            clear hP4 exa eW4
            go_wp2_with (first
              | (rw [← EW.out.2]; go_at_call 21; refine hL.out.mono ?_; rintro e w' ⟨rfl, rfl⟩)
              | fail)
            rw [← EW.out.1]
            refine hM.out.mono ?_
            rintro e w5 ⟨rfl, hP5⟩
            rw [ME.1]
            rw [ME.2] at hP5
            have hLi := Lib.hid (ps_list hP5 (p : Int))
            rw [ER] at hLi
            obtain ⟨n1, en1⟩ : ∃ n, n + 1 = (ofP (cutL L id) p ++ [{ hasX L id with pr := p }]).length := ⟨_, by rw [List.length_append]; rfl⟩
            rw [← en1] at hLi
            have n6 : (n1 : Int) ≤ 60 := by have := cut_len1 hh HF.out.2.2; have h2 : (ofP (cutL L id) p).length ≤ (cutL L id).length := List.length_filter_le _ _; have := HL.out; rw [List.length_append] at en1; simp at en1; omega
            have EN := Lib.hid (show (ofP (cutL L id) p ++ [{ hasX L id with pr := p }])[n1]? = some { hasX L id with pr := p } by rw [List.length_append] at en1; simp at en1; subst en1; simp)
            clear hP5 en1
            go_wp2_with fail
            refine hLi.out.mono ?_
            rintro e w6 ⟨A1, c1, rfl, hP6⟩
            have HH6 := Lib.hid (ps_has hP6 hid)
            rw [HM2.out.1, HM2.out.2] at HH6
            dsimp only at HH6
            clear hP6
            go_wp2_with fail
            refine HH6.out.mono ?_
            rintro e w7 ⟨rfl, hP7⟩
            have hP8 := hP7.blk 44 #[.int .i64 (hasX L id).id, .int .i64 (hasX L id).fl, .int .i64 (hasX L id).ct]
            obtain ⟨ya, eya⟩ : ∃ ya, ya = w7.heap.size := ⟨_, rfl⟩
            obtain ⟨W7, eW7⟩ : ∃ W, W = w7.alloc (.cells #[.int .i64 (hasX L id).id, .int .i64 (hasX L id).fl, .int .i64 (hasX L id).ct] 44) := ⟨_, rfl⟩
            rw [← eya, ← eW7] at hP8
            have H8 := Lib.hid hP8
            have EW7 := Lib.hid (And.intro eya eW7)
            have hL8 := Lib.hid (fun n => by have := ps_len (hP8.drewN n); rw [HML.out] at this; exact this.mono fun e w' ⟨he, hw⟩ => And.intro he hw.symm)
            have hyb := hP8.atBlk List.mem_cons_self
            have hxb := hP8.atBlk (List.mem_cons_of_mem _ (List.mem_cons_of_mem _ List.mem_cons_self))
            have y0 : W7.cell? ⟨ya, 0, none⟩ = some (.int .i64 (hasX L id).id) := hyb.cell 0
            have y1 : W7.cell? ⟨ya, 1, none⟩ = some (.int .i64 (hasX L id).fl) := hyb.cell 1
            have y2 : W7.cell? ⟨ya, 2, none⟩ = some (.int .i64 (hasX L id).ct) := hyb.cell 2
            have x0 : W7.cell? ⟨xa, 0, none⟩ = some (.int .i64 (hasX L id).id) := hxb.cell 0
            have x1 : W7.cell? ⟨xa, 1, none⟩ = some (.int .i64 (hasX L id).fl) := hxb.cell 1
            have x2 : W7.cell? ⟨xa, 2, none⟩ = some (.int .i64 (hasX L id).ct) := hxb.cell 2
            obtain ⟨g, eg, hg, hr⟩ := (hP8.rowAt (List.mem_cons_of_mem _ List.mem_cons_self)).2 (Nat.succ_pos _)
            subst eg
            obtain ⟨z0, z1, z2⟩ := hr _ _ EN.out
            dsimp only at z0 z1 z2
            have n0 : (0 : Int) ≤ (n1 : Int) := by omega
            have na : (((n1 + 1 : Nat) : Int) == 0) = false := by simp; omega
            have nb : ((n1 : Int) + 1 == 0) = false := by simp; omega
            have nw : wrap64 (n1 : Int) = (n1 : Int) := by unfold wrap64; omega
            clear n0 n6
            clear hP7 hP8 eya eW7 hyb hxb hr
            go_wp2_with fail
            rw [← EW7.out.2, ← EW7.out.1]
            go_big_quiet (first | (go_at_call 21; refine Calls.quiet_of_same (hL8.out _)) | fail)
            go_wp2_with fail
            have hM9 := Lib.hid (ps_move (H8.out.drewN nq) (k := id) (p := ((hasX L id).pr : Int)) hid)
            have ME9 := moveE_of HM2.out.1 HX.out
            have ER2 : listP 8 (moveL (moveL L id p) id (hasX L id).pr) ((hasX L id).pr : Int) = ofP (cutL (moveL L id p) id) (hasX L id).pr ++ [hasX L id] := by
              rw [listP_of HX.out, move_last HM2.out.1 H8.out.facts.2.2 (by rw [HM2.out.2]; exact fun e => ep e.symm), HM2.out.2]
            clear y0 y1 y2 x0 x1 x2 z0 z1 z2 na nb nw
            refine hM9.out.mono ?_
            rintro e w9 ⟨rfl, hP9⟩
            rw [ME9.1]
            rw [ME9.2] at hP9
            have hLiA := Lib.hid (ps_list hP9 ((hasX L id).pr : Int))
            rw [ER2] at hLiA
            obtain ⟨n2, en2⟩ : ∃ n, n + 1 = (ofP (cutL (moveL L id p) id) (hasX L id).pr ++ [hasX L id]).length := ⟨_, by rw [List.length_append]; rfl⟩
            rw [← en2] at hLiA
            have n6 : (n2 : Int) ≤ 60 := by have := cut_len1 HM2.out.1 H8.out.facts.2.2; have h2 : (ofP (cutL (moveL L id p) id) (hasX L id).pr).length ≤ (cutL (moveL L id p) id).length := List.length_filter_le _ _; have := HL.out; have := HML.out; rw [List.length_append] at en2; simp at en2; omega
            have EN2 := Lib.hid (show (ofP (cutL (moveL L id p) id) (hasX L id).pr ++ [hasX L id])[n2]? = some (hasX L id) by rw [List.length_append] at en2; simp at en2; subst en2; simp)
            clear hP9 en2
            go_wp2_with fail
            refine hLiA.out.mono ?_
            rintro e wa ⟨A2, c2, rfl, hPa⟩
            have hxb := hPa.atBlk (List.mem_cons_of_mem _ (List.mem_cons_of_mem _ (List.mem_cons_of_mem _ List.mem_cons_self)))
            have x0 : wa.cell? ⟨xa, 0, none⟩ = some (.int .i64 (hasX L id).id) := hxb.cell 0
            have x1 : wa.cell? ⟨xa, 1, none⟩ = some (.int .i64 (hasX L id).fl) := hxb.cell 1
            have x2 : wa.cell? ⟨xa, 2, none⟩ = some (.int .i64 (hasX L id).ct) := hxb.cell 2
            obtain ⟨g2, eg, hg2, hr⟩ := (hPa.rowAt List.mem_cons_self).2 (Nat.succ_pos _)
            subst eg
            obtain ⟨z0, z1, z2⟩ := hr _ _ EN2.out
            have n0 : (0 : Int) ≤ (n2 : Int) := by omega
            have na : (0 : Int) < ((n2 + 1 : Nat) : Int) := by omega
            have nb : (0 : Int) < (n2 : Int) + 1 := by omega
            have nw : wrap64 (n2 : Int) = (n2 : Int) := by unfold wrap64; omega
            have Ha := Lib.hid hPa
            clear n0 n6 hr hxb hPa
            go_wp2_with fail
            go_big_quiet (fail)
            go_wp2_with fail
            go_ret
            exact ⟨rfl, (Ha.out.drewN _).b⟩
            done

set_option maxHeartbeats 4000000 in
set_option maxRecDepth 100000 in
theorem moves_law (w : World) (A : Option Addr) (c : Nat) (l : List Cal) (id z : Int) (hid : i64 id) (hz : i64 z) (hA : ArgOps w A l) :
    Calls Try.prog 6 #[.slice A l.length c, .int .i64 id, .int .i64 z] w fun e w' => e = .returned (.bool true) ∧ Below w.heap.size w w' := by
  by_cases h : l.length ≤ 60
  · exact moves_any w A c l id z hid hz h hA
  · have h3 : (60 : Int) < (l.length : Int) := by omega
    clear h
    go_enter Try.func6, Try.ntmps6
    go_wp2_with fail
    refine (alive_any w).mono ?_
    rintro e w1 ⟨rfl, hb1⟩
    go_wp2_with fail
    go_ret
    exact ⟨rfl, hb1⟩
end Go.Proofs.Ytlkmmbondelheaa
