/-
  HeapTraces.
-/
import Derived.Test.YtleokeabcbepaaaHpSame
namespace Go.Proofs.Ytleokeabcbepaaa
open Go.RowKit Go.Maps Go.ChangeMaps Go.Sort

set_option maxHeartbeats 4000000 in
set_option maxRecDepth 100000 in
theorem traces_long (w : World) (A : Option Addr) (n c : Nat) (id : Int) (dl : Int) (hn : 100 < n) : Calls Try.prog 6 #[.slice A n c, .int .i64 id, .int .u64 dl] w fun e w' => e = .returned (.bool true) ∧ Below w.heap.size w w' := by
  have hn' : (100 : Int) < (n : Int) := by omega
  go_enter Try.func6, Try.ntmps6
  go_wp2_with fail
  refine (alive_any w).mono ?_
  rintro e w1 ⟨rfl, hb1⟩
  go_wp2_with fail
  go_ret
  exact ⟨rfl, hb1⟩

set_option maxHeartbeats 16000000 in
set_option maxRecDepth 100000 in
theorem traces_any (w : World) (A : Option Addr) (c : Nat) (l : List It) (id : Int) (dl : Int) (hid : -9223372036854775808 ≤ id ∧ id ≤ 9223372036854775807) (hdl : 0 ≤ dl ∧ dl ≤ 18446744073709551615) (hA : ArgIts w A l) (hn : l.length ≤ 100) :
    Calls Try.prog 6 #[.slice A l.length c, .int .i64 id, .int .u64 dl] w fun e w' => e = .returned (.bool true) ∧ Below w.heap.size w w' := by
  have hn' : ¬ (100 : Int) < (l.length : Int) := by omega
  have hnd : decide (100 < l.length) = false := by simp; omega
  have HA := Lib.hid hA
  clear hA
  go_enter Try.func6, Try.ntmps6
  go_wp2_with fail
  refine (alive_any w).mono ?_
  rintro e w1 ⟨rfl, hb1⟩
  go_wp2_with fail
  refine (new_any w1 w1.heap.size (Nat.le_refl _)).mono ?_
  rintro e w2 ⟨h, q, m, v, rfl, H2, hb2, -⟩
  have z2 := Lib.hid (hb1.trans (hb2.mono hb1.size))
  have H2 := Lib.hid (H2.more hb1.size)
  clear hb1 hb2
  go_wp2_with fail
  go_loopw [33] (fun i wr => ∃ k : Nat, i = .int .i64 (k : Int) ∧ k ≤ l.length ∧ (∃ v', Hp wr w.heap.size h q m v' (addAll (l.take k))) ∧ Below w.heap.size w wr) (fun i _ => l.length - (intOf i).toNat)
  case atStart => exact ⟨0, rfl, Nat.zero_le _, ⟨v, H2.out⟩, z2.out⟩
  case round =>
    obtain ⟨k, rfl, hk, ⟨v1, H1⟩, hb⟩ := hrel
    by_cases hlt : k < l.length
    · obtain ⟨b, off, rfl, hbl, hcell⟩ := HA.out.2 (by omega)
      have hx := List.getElem?_eq_getElem hlt
      obtain ⟨x, ex⟩ : ∃ x, x = l[k] := ⟨_, rfl⟩
      rw [← ex] at hx
      obtain ⟨x0, x1, x2⟩ := hcell k x hx
      have x0' := (hb.cell (p := ⟨b, _, none⟩) hbl).trans x0
      have x1' := (hb.cell (p := ⟨b, _, none⟩) hbl).trans x1
      have x2' := (hb.cell (p := ⟨b, _, none⟩) hbl).trans x2
      have b0 : (0 : Int) ≤ (k : Int) := by omega
      have b1 : (k : Int) < (l.length : Int) := by omega
      have HP := Lib.hid (push_any H1 (HA.out.1 x (List.mem_of_getElem? hx)) (by have := addAll_len (l.take k); have := List.length_take_le k l; omega))
      have HS := Lib.hid (addAll_snoc hx)
      have HF := Lib.hid (And.intro H1 hb)
      clear x0 x1 x2 ex hx hcell H1 hb
      go_wp2_with fail
      refine HP.out.mono ?_
      rintro e w4 ⟨rfl, v4, H4, hm4⟩
      have HE := Lib.hid (show (∃ v', Hp w4 w.heap.size h q m v' (addAll (l.take (k + 1)))) ∧ Below w.heap.size w w4 from ⟨⟨v4, by rw [HS.out]; exact H4⟩, HF.out.2.trans (hm4.below HF.out.1)⟩)
      clear H4 hm4
      go_wp2_with fail
      go_roundw
      case rel => exact ⟨k + 1, by go_num, by omega, HE.out⟩
      case measure => simp [intOf]; omega
    · obtain rfl : k = l.length := by omega
      have hS := addAll_len l
      rw [List.take_length] at H1
      generalize addAll l = S at H1 hS
      have HL := Lib.hid hS
      have HZ := Lib.hid hb
      have hS1 : (S.length : Int) ≤ 100 := by omega
      have hS0 : (0 : Int) ≤ (S.length : Int) := by omega
      clear hS hb
      have HAll := Lib.hid (all_any H1)
      have H1 := Lib.hid H1
      go_wp2_with fail
      refine HAll.out.mono ?_
      rintro e w4 ⟨u1, rfl, O4, hb4⟩
      have ap4 := O4.apart H1.out (Nat.le_refl _)
      have lt4 := O4.lt
      have H4 := H1.out.below hb4
      have z4 := HZ.out.trans (hb4.mono HZ.out.size)
      have O4 := O4.more HZ.out.size
      obtain ⟨A1, c1, hu1, -⟩ := O4.read
      subst hu1
      clear HAll HZ
      by_cases he : ∃ x ∈ S, x.id = id
      · obtain ⟨x, hx, rfl⟩ := he
        have hxok := H4.ok x hx
        have hsrt : ins x (del x.id S) = S := srt_unique (ins_srt (del_srt H4.srt) (fun y hy => (del_mem.1 hy).2)) H4.srt ((ins_perm x _).trans (del_perm H4.uniq hx))
        have hdl1 : (del x.id S).length + 1 = S.length := by have := (del_perm H4.uniq hx).length_eq; simpa using this
        have hdn : ∀ y ∈ del x.id S, y.id ≠ x.id := fun y hy => (del_mem.1 hy).2
        have hb1 : ((((del x.id S).length : Nat) : Int) == (S.length : Int) - 1) = true := by simp; omega
        have hT := Lib.hid (take_some H4 hx)
        have F4 := Lib.hid (And.intro H4 (And.intro z4 (And.intro O4 (And.intro ap4 lt4))))
        have F0 := Lib.hid (And.intro hsrt (And.intro hdl1 (And.intro hdn (And.intro hxok hx))))
        clear H4 z4 O4 ap4 lt4 hsrt hdl1 hdn hxok hx H1 hb4
        go_wp2_with fail
        refine hT.out.mono ?_
        rintro e w5 ⟨rfl, v5, H5, hm5⟩
        obtain ⟨H4, z4, O4, ap4, lt4⟩ := F4.out
        -- the item's own block, and the first list
        have s5 := trace_step H4 z4 O4 ap4 lt4 hm5
        have xb5 := H5.fresh (Nat.le_refl w5.heap.size)
        have X5 := Blk.new w5 31 #[.int .i64 x.id, .int .u64 x.d, .int .u64 x.n]
        have H5 := H5.alloc (itObj x)
        have G5 := Lib.hid (TrS.mk (s5.alloc (itObj x)) xb5 X5)
        have hF := Lib.hid (find_none H5 F0.out.2.2.2.1.1 F0.out.2.2.1)
        have K5 := Lib.hid H5
        clear H4 z4 O4 ap4 lt4 s5 xb5 X5 H5 hm5 F4
        go_wp2_with fail
        refine hF.out.mono ?_
        rintro e w6 ⟨rfl, hb6⟩
        have G6 := Lib.hid ((G5.out.below hb6).alloc (itObj ⟨0, 0, 0⟩))
        have K6 := Lib.hid ((K5.out.below hb6).alloc (itObj ⟨0, 0, 0⟩))
        have hL := Lib.hid (len_any K6.out)
        clear hb6
        go_wp2_with fail
        refine hL.out.mono ?_
        rintro e w7 ⟨rfl, rfl⟩
        obtain ⟨x0, x1, x2⟩ := G6.out.cells
        have hP := push_new K6.out F0.out.2.2.2.1 F0.out.2.2.1 (by have := F0.out.2.1; have := HL.out; omega)
        rw [F0.out.1] at hP
        have hP := Lib.hid hP
        go_wp2_with fail
        refine hP.out.mono ?_
        rintro e w8 ⟨rfl, v8, H8, hm8⟩
        have G8 := Lib.hid (G6.out.moved hm8 (hm8.below K6.out))
        clear x0 x1 x2 hm8
        obtain ⟨x0, x1, x2⟩ := G8.out.cells
        have hM := move_some H8 F0.out.2.2.2.2 dl x.n hdl F0.out.2.2.2.1.2.2
        have hM := Lib.hid hM
        have K8 := Lib.hid H8
        clear H8
        go_wp2_with fail
        refine hM.out.mono ?_
        rintro e w9 ⟨rfl, v9, H9, hm9⟩
        have G9 := Lib.hid (G8.out.moved hm9 (hm9.below K8.out))
        have hF := Lib.hid (find_some (x := ⟨x.id, dl, x.n⟩) H9 ((ins_perm _ _).mem_iff.2 List.mem_cons_self))
        have K9 := Lib.hid H9
        clear x0 x1 x2 hm9 H9
        go_wp2_with fail
        refine hF.out.mono ?_
        rintro e w10 ⟨rfl, hb10⟩
        have G10 := Lib.hid ((G9.out.below hb10).alloc (itObj ⟨x.id, dl, x.n⟩))
        have K10 := Lib.hid ((K9.out.below hb10).alloc (itObj ⟨x.id, dl, x.n⟩))
        obtain ⟨x0, x1, x2⟩ := G10.out.cells
        have y10 := own_box w10 (.int .i64 x.id) (.int .u64 dl) (.int .u64 x.n)
        have ny10 := (K9.out.below hb10).fresh (Nat.le_refl w10.heap.size)
        have hM := move_some K10.out (x := ⟨x.id, dl, x.n⟩) ((ins_perm _ _).mem_iff.2 List.mem_cons_self) x.d x.n F0.out.2.2.2.1.2.1 F0.out.2.2.2.1.2.2
        dsimp only at hM
        rw [del_ins (x := ⟨x.id, dl, x.n⟩) F0.out.2.2.1 rfl, show (⟨x.id, x.d, x.n⟩ : It) = x from rfl, F0.out.1] at hM
        have hM := Lib.hid hM
        have Y10 := Lib.hid (And.intro y10 ny10)
        clear hb10 y10 ny10
        go_wp2_with fail
        refine hM.out.mono ?_
        rintro e w11 ⟨rfl, v11, H11, hm11⟩
        have G11 := Lib.hid (G10.out.moved hm11 (hm11.below K10.out))
        have Y11 := Y10.out.1.kept hm11.1 Y10.out.2
        have y0 := Y11.cell 0
        have y1 := Y11.cell 1
        have y2 := Y11.cell 2
        simp at y0 y1 y2
        have hA2 := Lib.hid (all_any H11)
        clear x0 x1 x2 hm11 Y11
        go_wp2_with fail
        refine hA2.out.mono ?_
        rintro e w12 ⟨u2, rfl, O12, hb12⟩
        have G12 := Lib.hid (G11.out.below hb12)
        obtain ⟨A2, c2, hu2, hs2, -⟩ := O12.shows
        subst hu2
        have hS := Lib.hid (same_yes w12 A2 A1 c2 c1 S (by have := HL.out; omega) hs2 G12.out.st.2.1.shows_of)
        clear O12 hb12 hs2
        go_wp2_with fail
        refine hS.out.mono ?_
        rintro e w13 ⟨rfl, j, rfl⟩
        go_wp2_with fail
        go_ret
        exact ⟨rfl, below_drewN G12.out.st.1 j⟩
      · have hx : ∀ y ∈ S, y.id ≠ id := fun y hy e => he ⟨y, hy, e⟩
        have hT := Lib.hid (take_none H4 hid hx)
        have F4 := Lib.hid (And.intro H4 (And.intro z4 (And.intro O4 hx)))
        clear H4 z4 O4 ap4 lt4 he hx H1 hb4
        go_wp2_with fail
        refine hT.out.mono ?_
        rintro e w5 ⟨rfl, hb5⟩
        obtain ⟨H4, z4, O4, hx⟩ := F4.out
        have F5 := Lib.hid (And.intro ((H4.below hb5).alloc (itObj ⟨0, 0, 0⟩)) (And.intro ((z4.trans (hb5.mono z4.size)).alloc (z4.trans (hb5.mono z4.size)).size (itObj ⟨0, 0, 0⟩)) ((O4.below hb5).below ((Below.refl _ w5).alloc (Nat.le_refl _) (itObj ⟨0, 0, 0⟩)))))
        have HX := Lib.hid hx
        have hA2 := Lib.hid (all_any F5.out.1)
        clear H4 z4 O4 hb5 hx F4
        go_wp2_with fail
        refine hA2.out.mono ?_
        rintro e w6 ⟨u2, rfl, O6, hb6⟩
        obtain ⟨A2, c2, hu2, hs2, -⟩ := O6.shows
        subst hu2
        have hS := Lib.hid (same_yes w6 A2 A1 c2 c1 S (by have := HL.out; omega) hs2 (F5.out.2.2.below hb6).shows_of)
        have H6 := Lib.hid (F5.out.1.below hb6)
        have z6 := Lib.hid (F5.out.2.1.trans (hb6.mono F5.out.2.1.size))
        clear O6 hb6 hs2
        go_wp2_with fail
        refine hS.out.mono ?_
        rintro e w7 ⟨rfl, j, rfl⟩
        have hM := Lib.hid (move_none (H6.out.same (w' := w6.drewN j) (fun _ _ => rfl) H6.out.base) hid HX.out dl 0)
        go_wp2_with fail
        refine hM.out.mono ?_
        rintro e w8 ⟨rfl, rfl⟩
        go_wp2_with fail
        go_ret
        exact ⟨rfl, below_drewN z6.out j⟩

theorem traces_law (w : World) (A : Option Addr) (c : Nat) (l : List It) (id : Int) (dl : Int) (hid : -9223372036854775808 ≤ id ∧ id ≤ 9223372036854775807) (hdl : 0 ≤ dl ∧ dl ≤ 18446744073709551615) (hA : ArgIts w A l) :
    Calls Try.prog 6 #[.slice A l.length c, .int .i64 id, .int .u64 dl] w fun e w' => e = .returned (.bool true) ∧ Below w.heap.size w w' := by
  by_cases h : l.length ≤ 100
  · exact traces_any w A c l id dl hid hdl hA h
  · exact traces_long w A l.length c id dl (by omega)
end Go.Proofs.Ytleokeabcbepaaa
