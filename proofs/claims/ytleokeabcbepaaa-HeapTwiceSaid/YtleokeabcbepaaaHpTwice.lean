/-
  HeapTwice.
-/
import Derived.Test.YtleokeabcbepaaaHpTwo
namespace Go.Proofs.Ytleokeabcbepaaa
open Go.RowKit Go.Maps Go.ChangeMaps Go.Sort

set_option maxHeartbeats 4000000 in
set_option maxRecDepth 100000 in
theorem twice_long (w : World) (A : Option Addr) (n c : Nat) (x y : Int) (hn : 100 < n) : Calls Try.prog 9 #[.slice A n c, .int .u64 x, .int .u64 y] w fun e w' => e = .returned (.bool true) ∧ Below w.heap.size w w' := by
  have hn' : (100 : Int) < (n : Int) := by omega
  go_enter Try.func9, Try.ntmps9
  go_wp2_with fail
  refine (alive_any w).mono ?_
  rintro e w1 ⟨rfl, hb1⟩
  go_wp2_with fail
  go_ret
  exact ⟨rfl, hb1⟩

set_option maxHeartbeats 16000000 in
set_option maxRecDepth 100000 in
theorem twice_any (w : World) (A : Option Addr) (c : Nat) (l : List It) (x y : Int) (hx : 0 ≤ x ∧ x ≤ 18446744073709551615) (hy : 0 ≤ y ∧ y ≤ 18446744073709551615) (hA : ArgIts w A l) (hn : l.length ≤ 100) :
    Calls Try.prog 9 #[.slice A l.length c, .int .u64 x, .int .u64 y] w fun e w' => e = .returned (.bool true) ∧ Below w.heap.size w w' := by
  have hn' : ¬ (100 : Int) < (l.length : Int) := by omega
  have hnd : decide (100 < l.length) = false := by simp; omega
  have HA := Lib.hid hA
  clear hA
  go_enter Try.func9, Try.ntmps9
  go_wp2_with fail
  refine (alive_any w).mono ?_
  rintro e w1 ⟨rfl, hb1⟩
  go_wp2_with fail
  refine (new_any w1 w1.heap.size (Nat.le_refl _)).mono ?_
  rintro e w2 ⟨h1, q1, m1, v1, rfl, H1, hb2, -⟩
  have z2 := hb1.trans (hb2.mono hb1.size)
  have H1 := H1.more hb1.size
  have F2 := Lib.hid (And.intro z2 H1)
  clear hb1 hb2 z2 H1
  go_wp2_with fail
  refine (new_any w2 w2.heap.size (Nat.le_refl _)).mono ?_
  rintro e w3 ⟨h2, q2, m2, v2, rfl, H2, hb3, -⟩
  have F3 := Lib.hid (And.intro (F2.out.1.trans (hb3.mono F2.out.1.size)) (two_new F2.out.2 hb3 H2))
  clear hb3 H2
  go_wp2_with fail
  go_loopw [27] (fun i wr => ∃ k : Nat, i = .int .i64 (k : Int) ∧ k ≤ l.length ∧ (∃ v1' v2', Two wr w.heap.size h1 q1 m1 v1' (addAll (l.take k)) h2 q2 m2 v2' (addAll (l.take k))) ∧ Below w.heap.size w wr) (fun i _ => l.length - (intOf i).toNat)
  case atStart => exact ⟨0, rfl, Nat.zero_le _, ⟨v1, v2, F3.out.2⟩, F3.out.1⟩
  case round =>
    obtain ⟨k, rfl, hk, ⟨u1, u2, T⟩, hb⟩ := hrel
    by_cases hlt : k < l.length
    · obtain ⟨b, off, rfl, hbl, hcell⟩ := HA.out.2 (by omega)
      have hz := List.getElem?_eq_getElem hlt
      obtain ⟨z, ez⟩ : ∃ z, z = l[k] := ⟨_, rfl⟩
      rw [← ez] at hz
      obtain ⟨x0, x1, x2⟩ := hcell k z hz
      have hok := HA.out.1 z (List.mem_of_getElem? hz)
      have hsz : (addAll (l.take k)).length < 1000 := by have := addAll_len (l.take k); have := List.length_take_le k l; omega
      have x0' := (hb.cell (p := ⟨b, _, none⟩) hbl).trans x0
      have x1' := (hb.cell (p := ⟨b, _, none⟩) hbl).trans x1
      have x2' := (hb.cell (p := ⟨b, _, none⟩) hbl).trans x2
      have b0 : (0 : Int) ≤ (k : Int) := by omega
      have b1 : (k : Int) < (l.length : Int) := by omega
      have HC := Lib.hid (And.intro x0 (And.intro x1 x2))
      have HP := Lib.hid (push_any T.a hok hsz)
      have HS := Lib.hid (addAll_snoc hz)
      have HF := Lib.hid (And.intro T (And.intro hb (And.intro hok hsz)))
      clear x0 x1 x2 ez hz hcell T hb hok hsz
      go_wp2_with fail
      refine HP.out.mono ?_
      rintro e w4 ⟨rfl, u1', H4, hm4⟩
      have T4 := HF.out.1.first hm4 H4
      have z4 := HF.out.2.1.trans (hm4.below HF.out.1.a)
      clear x0' x1' x2' H4 hm4
      have x0' := (z4.cell (p := ⟨b, _, none⟩) hbl).trans HC.out.1
      have x1' := (z4.cell (p := ⟨b, _, none⟩) hbl).trans HC.out.2.1
      have x2' := (z4.cell (p := ⟨b, _, none⟩) hbl).trans HC.out.2.2
      have HP2 := Lib.hid (push_any T4.b HF.out.2.2.1 HF.out.2.2.2)
      have F4 := Lib.hid (And.intro T4 z4)
      clear T4 z4
      go_wp2_with fail
      refine HP2.out.mono ?_
      rintro e w5 ⟨rfl, u2', H5, hm5⟩
      have HE := Lib.hid (show (∃ v1' v2', Two w5 w.heap.size h1 q1 m1 v1' (addAll (l.take (k + 1))) h2 q2 m2 v2' (addAll (l.take (k + 1)))) ∧ Below w.heap.size w w5 from ⟨⟨u1', u2', by rw [HS.out]; exact F4.out.1.second hm5 H5⟩, F4.out.2.trans (hm5.below F4.out.1.b)⟩)
      clear H5 hm5 x0' x1' x2'
      go_wp2_with fail
      go_roundw
      case rel => exact ⟨k + 1, by go_num, by omega, HE.out⟩
      case measure => simp [intOf]; omega
    · obtain rfl : k = l.length := by omega
      have hS := addAll_len l
      rw [List.take_length] at T
      generalize addAll l = S at T hS
      have HL := Lib.hid hS
      have HD := Lib.hid (fun now hnow => due_any T.a now hnow (by omega))
      have F5 := Lib.hid (And.intro T hb)
      clear hS hb T
      go_wp2_with fail
      refine (HD.out _ (by omega)).mono ?_
      rintro e w6 ⟨b1, xs1, r1, v6, rfl, sp1, le1, gt1, O6, H6, hk6, ho6⟩
      have m6 : Moved wr w6 q1 m1 u1 v6 := ⟨hk6, .inl ho6⟩
      have T6 := F5.out.1.first m6 H6
      have z6 := F5.out.2.trans (m6.below F5.out.1.a)
      have ap6 := apart_moved (u := b1) (w := w6) (w' := w6) O6.lt (Moved.of_below (Below.refl _ _)) (fun k e => (O6.apart F5.out.1.a (Nat.le_refl _) k e ∘ (fp_congr ho6).1))
      obtain ⟨A1, c1, hu1, -, -⟩ := O6.shows
      subst hu1
      have G6 := Lib.hid (And.intro z6 (And.intro T6 (And.intro O6 ap6)))
      have C6 := Lib.hid (And.intro sp1 (And.intro le1 gt1))
      have hl6 : xs1.length + r1.length ≤ 100 := by have := HL.out; have e := congrArg List.length sp1; rw [List.length_append] at e; omega
      have HL6 := Lib.hid hl6
      have HD2 := Lib.hid (fun now hnow => due_any T6.a now hnow (by omega))
      clear sp1 le1 gt1 O6 H6 hk6 ho6 T6 z6 m6 ap6 hl6
      go_wp2_with fail
      refine (HD2.out _ (by omega)).mono ?_
      rintro e w7 ⟨b2, xs2, r2, v7, rfl, sp2, le2, gt2, O7, H7, hk7, ho7⟩
      obtain ⟨z6, T6, O6, ap6⟩ := G6.out
      have m7 : Moved w6 w7 q1 m1 v6 v7 := ⟨hk7, .inl ho7⟩
      have T7 := T6.first m7 H7
      have z7 := z6.trans (m7.below T6.a)
      have O67 := O6.moved m7 ap6
      obtain ⟨A2, c2, hu2, s2, n2⟩ := O7.shows
      subst hu2
      have s1 := O67.shows_of
      have k1 : A1 = none → c1 = 0 ∧ xs1.length = 0 := fun e => ⟨own_cap O67 e, by obtain ⟨A', c', e2, _, h0⟩ := O67.shows; injection e2 with e3; exact h0 (e3 ▸ e)⟩
      have k2 : A2 = none → c2 = 0 ∧ xs2.length = 0 := fun e => ⟨own_cap O7 e, n2 e⟩
      have C7 := Lib.hid (And.intro sp2 (And.intro le2 gt2))
      have hl7 : xs1.length + (xs2.length + r2.length) ≤ 100 := by have := HL6.out; have e := congrArg List.length sp2; rw [List.length_append] at e; omega
      have o0 : OwnIt w7 w7.heap.size (.slice none 0 0) [] := World.ownsRow_nil _ _ _ _
      have G7 := Lib.hid (And.intro z7 (And.intro T7 (And.intro s1 (And.intro s2 (And.intro k1 (And.intro k2 (And.intro hl7 (And.intro o0 (And.intro (show ([] : List It).length + xs1.length ≤ 100000 by simp; omega) (show ([] ++ xs1 : List It).length + xs2.length ≤ 100000 by simp; omega))))))))))
      clear sp2 le2 gt2 O7 H7 hk7 ho7 T6 z6 O6 ap6 m7 T7 z7 O67 s1 s2 n2 k1 k2 hl7 o0 G6
      go_wp2_with (first
        | (at_builtin; refine wpList_append_it rfl _ _ rfl w7.heap.size (.slice none 0 0) [] xs1 rfl G7.out.2.2.2.2.2.2.2.1 A1 c1 rfl G7.out.2.2.2.2.1 G7.out.2.2.1 G7.out.2.2.2.2.2.2.2.2.1 (Nat.le_refl _) ?_; intro u8 w8 O8 hg8 ho8)
        | (at_builtin; refine wpList_append_it rfl _ _ rfl w7.heap.size u8 ([] ++ xs1) xs2 rfl O8 A2 c2 rfl G7.out.2.2.2.2.2.1 (G7.out.2.2.2.1.below (due_b7 hg8)) G7.out.2.2.2.2.2.2.2.2.2 hg8.size ?_; intro u9 w9 O9 hg9 ho9; have G9 := Lib.hid (twice_b9 G7.out.1 G7.out.2.1 hg8 hg9 ho8 O9); clear O8 O9 hg8 hg9 ho8 ho9))
      have e3 := G9.out.2.2.1
      have hD3 := Lib.hid (due_any G9.out.2.1.b (max x y) (by omega) (by have := HL.out; omega))
      obtain ⟨A9, c9, hu9, -, -⟩ := e3.shows
      subst hu9
      clear e3
      refine hD3.out.mono ?_
      rintro e w10 ⟨b3, xs3, r3, v10, rfl, sp3, le3, gt3, O10, H10, hk10, ho10⟩
      obtain ⟨z9, T9, O9, ap9⟩ := G9.out
      have m10 : Moved w9 w10 q2 m2 u2 v10 := ⟨hk10, .inl ho10⟩
      have T10 := T9.second m10 H10
      have z10 := z9.trans (m10.below T9.b)
      have O9 := O9.moved m10 ap9
      obtain ⟨e1, e2⟩ := due_unique (now := max x y) (xs := xs1 ++ xs2) (r := r2) (ys := xs3) (s := r3) (by rw [List.append_assoc, ← C7.out.1, ← C6.out.1]; exact sp3) (fun z hz => by
        rcases List.mem_append.1 hz with hz | hz
        · have := C6.out.2.1 z hz; omega
        · exact C7.out.2.1 z hz) C7.out.2.2 le3 gt3
      subst e2
      rw [e1] at O9
      have hlx : xs3.length ≤ 100 := by have := G7.out.2.2.2.2.2.2.1; rw [← e1, List.length_append]; omega
      obtain ⟨A10, c10, hu10, s10, -⟩ := O10.shows
      subst hu10
      have el : (xs1 ++ xs2).length = xs3.length := by rw [e1]
      rw [el]
      have hS := Lib.hid (same_yes w10 A9 A10 c9 c10 xs3 (by omega) O9.shows_of s10)
      have G10 := Lib.hid (And.intro z10 T10)
      clear sp3 le3 gt3 O10 H10 hk10 ho10 z9 T9 O9 ap9 m10 T10 z10 e1 hlx s10 el G9
      go_wp2_with fail
      refine hS.out.mono ?_
      rintro e w11 ⟨rfl, j, rfl⟩
      have hA1 := Lib.hid (all_any (G10.out.2.drewN j).a)
      go_wp2_with fail
      refine hA1.out.mono ?_
      rintro e w12 ⟨u4, rfl, O12, hb12⟩
      have T12 := (G10.out.2.drewN j).below hb12
      have z12 := (below_drewN G10.out.1 j).trans (hb12.mono G10.out.1.size)
      obtain ⟨A12, c12, hu12, s12, -⟩ := O12.shows
      subst hu12
      have G12 := Lib.hid (And.intro z12 s12)
      have hA2 := Lib.hid (all_any T12.b)
      clear T12 z12 O12 hb12 s12
      go_wp2_with fail
      refine hA2.out.mono ?_
      rintro e w13 ⟨u5, rfl, O13, hb13⟩
      obtain ⟨A13, c13, hu13, s13, -⟩ := O13.shows
      subst hu13
      have hS2 := Lib.hid (same_yes w13 A12 A13 c12 c13 r2 (by have := G7.out.2.2.2.2.2.2.1; omega) (G12.out.2.below hb13) s13)
      have z13 := Lib.hid (G12.out.1.trans (hb13.mono G12.out.1.size))
      clear O13 hb13 s13
      go_wp2_with fail
      refine hS2.out.mono ?_
      rintro e w14 ⟨rfl, i, rfl⟩
      go_wp2_with fail
      go_ret
      exact ⟨rfl, below_drewN z13.out i⟩

theorem twice_law (w : World) (A : Option Addr) (c : Nat) (l : List It) (x y : Int) (hx : 0 ≤ x ∧ x ≤ 18446744073709551615) (hy : 0 ≤ y ∧ y ≤ 18446744073709551615) (hA : ArgIts w A l) :
    Calls Try.prog 9 #[.slice A l.length c, .int .u64 x, .int .u64 y] w fun e w' => e = .returned (.bool true) ∧ Below w.heap.size w w' := by
  by_cases h : l.length ≤ 100
  · exact twice_any w A c l x y hx hy hA h
  · exact twice_long w A l.length c x y (by omega)
end Go.Proofs.Ytleokeabcbepaaa
