/-
  HeapBack.
-/
import Derived.Test.YtleokeabcbepaaaHpLaw
namespace Go.Proofs.Ytleokeabcbepaaa
open Go.RowKit Go.Maps Go.ChangeMaps Go.Sort

set_option maxHeartbeats 4000000 in
set_option maxRecDepth 100000 in
theorem back_long (w : World) (A : Option Addr) (n c : Nat) (id : Int) (hn : 100 < n) : Calls Try.prog 8 #[.slice A n c, .int .i64 id] w fun e w' => e = .returned (.bool true) ∧ Below w.heap.size w w' := by
  have hn' : (100 : Int) < (n : Int) := by omega
  go_enter Try.func8, Try.ntmps8
  go_wp2_with fail
  refine (alive_any w).mono ?_
  rintro e w1 ⟨rfl, hb1⟩
  go_wp2_with fail
  go_ret
  exact ⟨rfl, hb1⟩

/-- Where the heap has its items again, and the first list of them lies. -/
def BackEnd (w : World) (h : Nat) (A1 : Option Addr) (c1 : Nat) (S : List It) (w9 : World) : Prop :=
  (∃ q m v, Hp w9 w.heap.size h q m v S) ∧ OwnIt w9 w.heap.size (.slice A1 S.length c1) S ∧ Below w.heap.size w w9

set_option maxHeartbeats 8000000 in
set_option maxRecDepth 100000 in
theorem back_any (w : World) (A : Option Addr) (c : Nat) (l : List It) (id : Int) (hid : -9223372036854775808 ≤ id ∧ id ≤ 9223372036854775807) (hA : ArgIts w A l) (hn : l.length ≤ 100) :
    Calls Try.prog 8 #[.slice A l.length c, .int .i64 id] w fun e w' => e = .returned (.bool true) ∧ Below w.heap.size w w' := by
  have hn' : ¬ (100 : Int) < (l.length : Int) := by omega
  have hnd : decide (100 < l.length) = false := by simp; omega
  have HA := Lib.hid hA
  clear hA
  go_enter Try.func8, Try.ntmps8
  go_wp2_with fail
  refine (alive_any w).mono ?_
  rintro e w1 ⟨rfl, hb1⟩
  go_wp2_with fail
  refine (new_any w1 w1.heap.size (Nat.le_refl _)).mono ?_
  rintro e w2 ⟨h, q, m, v, rfl, H2, hb2, -⟩
  have z2 := Lib.hid (hb1.trans (hb2.mono hb1.size))
  have H2 := Lib.hid (H2.more hb1.size)
  clear hb1 hb2
  go_wp2_with fail
  go_loopw [25] (fun i wr => ∃ k : Nat, i = .int .i64 (k : Int) ∧ k ≤ l.length ∧ (∃ v', Hp wr w.heap.size h q m v' (addAll (l.take k))) ∧ Below w.heap.size w wr) (fun i _ => l.length - (intOf i).toNat)
  case atStart => exact ⟨0, rfl, Nat.zero_le _, ⟨v, H2.out⟩, z2.out⟩
  case round =>
    obtain ⟨k, rfl, hk, ⟨v1, H1⟩, hb⟩ := hrel
    by_cases hlt : k < l.length
    · obtain ⟨b, off, rfl, hbl, hcell⟩ := HA.out.2 (by omega)
      have hx := List.getElem?_eq_getElem hlt
      obtain ⟨x, ex⟩ : ∃ x, x = l[k] := ⟨_, rfl⟩
      rw [← ex] at hx
      obtain ⟨x0, x1, x2⟩ := hcell k x hx
      have x0' := (hb.cell (p := ⟨b, _, none⟩) hbl).trans x0
      have x1' := (hb.cell (p := ⟨b, _, none⟩) hbl).trans x1
      have x2' := (hb.cell (p := ⟨b, _, none⟩) hbl).trans x2
      have b0 : (0 : Int) ≤ (k : Int) := by omega
      have b1 : (k : Int) < (l.length : Int) := by omega
      have HP := Lib.hid (push_any H1 (HA.out.1 x (List.mem_of_getElem? hx)) (by have := addAll_len (l.take k); have := List.length_take_le k l; omega))
      have HS := Lib.hid (addAll_snoc hx)
      have HF := Lib.hid (And.intro H1 hb)
      clear x0 x1 x2 ex hx hcell H1 hb
      go_wp2_with fail
      refine HP.out.mono ?_
      rintro e w4 ⟨rfl, v4, H4, hm4⟩
      have HE := Lib.hid (show (∃ v', Hp w4 w.heap.size h q m v' (addAll (l.take (k + 1)))) ∧ Below w.heap.size w w4 from ⟨⟨v4, by rw [HS.out]; exact H4⟩, HF.out.2.trans (hm4.below HF.out.1)⟩)
      clear H4 hm4
      go_wp2_with fail
      go_roundw
      case rel => exact ⟨k + 1, by go_num, by omega, HE.out⟩
      case measure => simp [intOf]; omega
    · obtain rfl : k = l.length := by omega
      have hS := addAll_len l
      rw [List.take_length] at H1
      generalize addAll l = S at H1 hS
      have HL := Lib.hid hS
      have HZ := Lib.hid hb
      clear hS hb
      have HAll := Lib.hid (all_any H1)
      have H1 := Lib.hid H1
      go_wp2_with fail
      refine HAll.out.mono ?_
      rintro e w4 ⟨u1, rfl, O4, hb4⟩
      have ap4 := O4.apart H1.out (Nat.le_refl _)
      have lt4 := O4.lt
      have H4 := H1.out.below hb4
      have z4 := HZ.out.trans (hb4.mono HZ.out.size)
      have O4 := O4.more HZ.out.size
      obtain ⟨A1, c1, hu1, -⟩ := O4.read
      subst hu1
      have hS1 : (S.length : Int) ≤ 100 := by have := HL.out; omega
      have hS0 : (0 : Int) ≤ (S.length : Int) := by omega
      clear HAll HZ
      have hfin : ∀ (w9 : World) (v9 : Value), Hp w9 w.heap.size h q m v9 S → OwnIt w9 w.heap.size (.slice A1 S.length c1) S → Below w.heap.size w w9 → BackEnd w h A1 c1 S w9 := fun w9 v9 a b c => ⟨⟨q, m, v9, a⟩, b, c⟩
      by_cases he : ∃ x ∈ S, x.id = id
      · obtain ⟨x, hx, rfl⟩ := he
        have hxok := H4.ok x hx
        have hsrt : ins x (del x.id S) = S := srt_unique (ins_srt (del_srt H4.srt) (fun y hy => (del_mem.1 hy).2)) H4.srt ((ins_perm x _).trans (del_perm H4.uniq hx))
        have hdl : (del x.id S).length + 1 = S.length := by have := (del_perm H4.uniq hx).length_eq; simpa using this
        have hdn : ∀ y ∈ del x.id S, y.id ≠ x.id := fun y hy => (del_mem.1 hy).2
        have hb1 : ((((del x.id S).length : Nat) : Int) != (S.length : Int) - 1) = false := by simp; omega
        have hT := Lib.hid (take_some H4 hx)
        have F4 := Lib.hid (And.intro H4 (And.intro z4 (And.intro O4 (And.intro ap4 lt4))))
        have F0 := Lib.hid (And.intro hsrt (And.intro hdl (And.intro hdn (And.intro hxok hx))))
        clear H4 z4 O4 ap4 lt4 hsrt hdl hdn hxok hx H1 hb4
        go_wp2_with fail
        refine hT.out.mono ?_
        rintro e w5 ⟨rfl, v5, H5, hm5⟩
        obtain ⟨H4, z4, O4, ap4, lt4⟩ := F4.out
        have O5 := (O4.moved hm5 ap4).below ((Below.refl _ w5).alloc (Nat.le_refl _) (itObj x))
        have ap5 := apart_moved lt4 hm5 ap4
        have lt5 := O5.lt
        have z5 := (z4.trans (hm5.below H4)).alloc (z4.trans (hm5.below H4)).size (itObj x)
        have xb5 := H5.fresh (Nat.le_refl w5.heap.size)
        have X5 := Blk.new w5 31 #[.int .i64 x.id, .int .u64 x.d, .int .u64 x.n]
        have H5 := H5.alloc (itObj x)
        have c0 := X5.cell 0
        have hL := Lib.hid (len_any H5)
        have F5 := Lib.hid (And.intro H5 (And.intro z5 (And.intro O5 (And.intro ap5 (And.intro lt5 (And.intro xb5 X5))))))
        clear H4 z4 O4 ap4 lt4 H5 z5 O5 ap5 lt5 xb5 X5 hm5 F4
        go_wp2_with fail
        refine hL.out.mono ?_
        rintro e w6 ⟨rfl, rfl⟩
        obtain ⟨H5, z5, O5, ap5, lt5, xb5, X5⟩ := F5.out
        have hP := push_new H5 F0.out.2.2.2.1 F0.out.2.2.1 (by have := F0.out.2.1; have := HL.out; omega)
        rw [F0.out.1] at hP
        have hP := Lib.hid hP
        clear H5 z5 O5 ap5 lt5 xb5 X5
        go_wp2_with fail
        refine hP.out.mono ?_
        rintro e w7 ⟨rfl, v7, H7, hm7⟩
        obtain ⟨H5, z5, O5, ap5, lt5, xb5, X5⟩ := F5.out
        have O7 := O5.moved hm7 ap5
        have ap7 := apart_moved lt5 hm7 ap5
        have lt7 := O7.lt
        have z7 := z5.trans (hm7.below H5)
        have X7 := X5.kept hm7.1 xb5
        have d0 := X7.cell 0
        have d1 := X7.cell 1
        have d2 := X7.cell 2
        simp at d0 d1 d2
        have hMv := move_some H7 F0.out.2.2.2.2 x.d x.n F0.out.2.2.2.1.2.1 F0.out.2.2.2.1.2.2
        rw [show (⟨x.id, x.d, x.n⟩ : It) = x from rfl, F0.out.1] at hMv
        have hMv := Lib.hid hMv
        have F7 := Lib.hid (And.intro H7 (And.intro z7 (And.intro O7 (And.intro ap7 lt7))))
        clear H5 z5 O5 ap5 lt5 xb5 X5 H7 z7 O7 ap7 lt7 X7 hm7 F5
        go_wp2_with fail
        refine hMv.out.mono ?_
        rintro e w8 ⟨rfl, v8, H8, hm8⟩
        obtain ⟨H7, z7, O7, ap7, lt7⟩ := F7.out
        have HF := Lib.hid (hfin w8 v8 H8 (O7.moved hm8 ap7) (z7.trans (hm8.below H7)))
        clear H7 z7 O7 ap7 lt7 H8 hm8 hfin
        go_wp2_with fail
        obtain ⟨⟨q9, m9, v9, H9⟩, O9, z9⟩ := HF.out
        have hAll2 := Lib.hid (all_any H9)
        clear H9
        refine hAll2.out.mono ?_
        rintro e w10 ⟨u2, rfl, O10, hb10⟩
        obtain ⟨A1', c1', e1, hr1⟩ := (O9.below hb10).read
        have ea : A1 = A1' := by injection e1
        subst ea
        obtain ⟨A2, c2, hu2, hr2⟩ := (O10.more z9.size).read
        subst hu2
        have HR := Lib.hid (And.intro hr1 hr2)
        have z10 := Lib.hid (z9.trans (hb10.mono z9.size))
        clear e1 hr1 hr2 O9 O10 hb10 z9
        go_wp2_with fail
        go_loopw [83] (fun i wr => ∃ k : Nat, i = .int .i64 (k : Int) ∧ k ≤ S.length ∧ ∃ j, wr = w10.drewN j) (fun i _ => S.length - (intOf i).toNat)
        case atStart => exact ⟨0, rfl, Nat.zero_le _, 0, rfl⟩
        case round =>
          obtain ⟨k, rfl, hk, j, rfl⟩ := hrel
          by_cases hlt : k < S.length
          · obtain ⟨g1, rfl, _, _, r1⟩ := HR.out.1 (by omega)
            obtain ⟨g2, rfl, _, _, r2⟩ := HR.out.2 (by omega)
            obtain ⟨y, hy⟩ : ∃ y, S[k]? = some y := ⟨_, List.getElem?_eq_getElem hlt⟩
            obtain ⟨p0, p1, p2⟩ := r1 k y hy
            obtain ⟨q0, q1, q2⟩ := r2 k y hy
            have b0 : (0 : Int) ≤ (k : Int) := by omega
            have b1 : (k : Int) < (S.length : Int) := by omega
            clear r1 r2 hy
            go_wp2_with fail
            go_quiet (fail)
            go_wp2_with fail
            go_roundw
            case rel => exact ⟨k + 1, by go_num, by omega, _, rfl⟩
            case measure => simp [intOf]; omega
          · obtain rfl : k = S.length := by omega
            go_wp2_with fail
            go_ret
            exact ⟨rfl, below_drewN z10.out _⟩
      · have hx : ∀ y ∈ S, y.id ≠ id := fun y hy e => he ⟨y, hy, e⟩
        have hT := Lib.hid (take_none H4 hid hx)
        have F4 := Lib.hid (And.intro H4 (And.intro z4 O4))
        clear H4 z4 O4 ap4 lt4 he hx H1 hb4
        go_wp2_with fail
        refine hT.out.mono ?_
        rintro e w5 ⟨rfl, hb5⟩
        obtain ⟨H4, z4, O4⟩ := F4.out
        have HF := Lib.hid (hfin _ v1 ((H4.below hb5).alloc (itObj ⟨0, 0, 0⟩)) ((O4.below hb5).below ((Below.refl _ w5).alloc (Nat.le_refl _) (itObj ⟨0, 0, 0⟩))) ((z4.trans (hb5.mono z4.size)).alloc (z4.trans (hb5.mono z4.size)).size (itObj ⟨0, 0, 0⟩)))
        clear H4 z4 O4 hb5 hfin
        go_wp2_with fail
        obtain ⟨⟨q9, m9, v9, H9⟩, O9, z9⟩ := HF.out
        have hAll2 := Lib.hid (all_any H9)
        clear H9
        refine hAll2.out.mono ?_
        rintro e w10 ⟨u2, rfl, O10, hb10⟩
        obtain ⟨A1', c1', e1, hr1⟩ := (O9.below hb10).read
        have ea : A1 = A1' := by injection e1
        subst ea
        obtain ⟨A2, c2, hu2, hr2⟩ := (O10.more z9.size).read
        subst hu2
        have HR := Lib.hid (And.intro hr1 hr2)
        have z10 := Lib.hid (z9.trans (hb10.mono z9.size))
        clear e1 hr1 hr2 O9 O10 hb10 z9
        go_wp2_with fail
        go_loopw [83] (fun i wr => ∃ k : Nat, i = .int .i64 (k : Int) ∧ k ≤ S.length ∧ ∃ j, wr = w10.drewN j) (fun i _ => S.length - (intOf i).toNat)
        case atStart => exact ⟨0, rfl, Nat.zero_le _, 0, rfl⟩
        case round =>
          obtain ⟨k, rfl, hk, j, rfl⟩ := hrel
          by_cases hlt : k < S.length
          · obtain ⟨g1, rfl, _, _, r1⟩ := HR.out.1 (by omega)
            obtain ⟨g2, rfl, _, _, r2⟩ := HR.out.2 (by omega)
            obtain ⟨y, hy⟩ : ∃ y, S[k]? = some y := ⟨_, List.getElem?_eq_getElem hlt⟩
            obtain ⟨p0, p1, p2⟩ := r1 k y hy
            obtain ⟨q0, q1, q2⟩ := r2 k y hy
            have b0 : (0 : Int) ≤ (k : Int) := by omega
            have b1 : (k : Int) < (S.length : Int) := by omega
            clear r1 r2 hy
            go_wp2_with fail
            go_quiet (fail)
            go_wp2_with fail
            go_roundw
            case rel => exact ⟨k + 1, by go_num, by omega, _, rfl⟩
            case measure => simp [intOf]; omega
          · obtain rfl : k = S.length := by omega
            go_wp2_with fail
            go_ret
            exact ⟨rfl, below_drewN z10.out _⟩

theorem back_law (w : World) (A : Option Addr) (c : Nat) (l : List It) (id : Int) (hid : -9223372036854775808 ≤ id ∧ id ≤ 9223372036854775807) (hA : ArgIts w A l) :
    Calls Try.prog 8 #[.slice A l.length c, .int .i64 id] w fun e w' => e = .returned (.bool true) ∧ Below w.heap.size w w' := by
  by_cases h : l.length ≤ 100
  · exact back_any w A c l id hid hA h
  · exact back_long w A l.length c id (by omega)
end Go.Proofs.Ytleokeabcbepaaa
