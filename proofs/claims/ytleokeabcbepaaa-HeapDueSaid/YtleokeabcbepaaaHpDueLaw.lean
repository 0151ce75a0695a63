/-
  HeapDue.
-/
import Derived.Test.YtleokeabcbepaaaHpSame
namespace Go.Proofs.Ytleokeabcbepaaa
open Go.RowKit Go.Maps Go.ChangeMaps Go.Sort

set_option maxHeartbeats 4000000 in
set_option maxRecDepth 100000 in
theorem dueLaw_long (w : World) (A : Option Addr) (n c : Nat) (now : Int) (hn : 100 < n) : Calls Try.prog 7 #[.slice A n c, .int .u64 now] w fun e w' => e = .returned (.bool true) ∧ Below w.heap.size w w' := by
  have hn' : (100 : Int) < (n : Int) := by omega
  go_enter Try.func7, Try.ntmps7
  go_wp2_with fail
  refine (alive_any w).mono ?_
  rintro e w1 ⟨rfl, hb1⟩
  go_wp2_with fail
  go_ret
  exact ⟨rfl, hb1⟩

set_option maxHeartbeats 8000000 in
set_option maxRecDepth 100000 in
theorem dueLaw_any (w : World) (A : Option Addr) (c : Nat) (l : List It) (now : Int) (hnow : 0 ≤ now ∧ now ≤ 18446744073709551615) (hA : ArgIts w A l) (hn : l.length ≤ 100) :
    Calls Try.prog 7 #[.slice A l.length c, .int .u64 now] w fun e w' => e = .returned (.bool true) ∧ Below w.heap.size w w' := by
  have hn' : ¬ (100 : Int) < (l.length : Int) := by omega
  have hnd : decide (100 < l.length) = false := by simp; omega
  have HA := Lib.hid hA
  clear hA
  go_enter Try.func7, Try.ntmps7
  go_wp2_with fail
  refine (alive_any w).mono ?_
  rintro e w1 ⟨rfl, hb1⟩
  go_wp2_with fail
  refine (new_any w1 w1.heap.size (Nat.le_refl _)).mono ?_
  rintro e w2 ⟨h, q, m, v, rfl, H2, hb2, -⟩
  have z2 := Lib.hid (hb1.trans (hb2.mono hb1.size))
  have H2 := Lib.hid (H2.more hb1.size)
  clear hb1 hb2
  go_wp2_with fail
  go_loopw [26] (fun i wr => ∃ k : Nat, i = .int .i64 (k : Int) ∧ k ≤ l.length ∧ (∃ v', Hp wr w.heap.size h q m v' (addAll (l.take k))) ∧ Below w.heap.size w wr) (fun i _ => l.length - (intOf i).toNat)
  case atStart => exact ⟨0, rfl, Nat.zero_le _, ⟨v, H2.out⟩, z2.out⟩
  case round =>
    obtain ⟨k, rfl, hk, ⟨v1, H1⟩, hb⟩ := hrel
    by_cases hlt : k < l.length
    · obtain ⟨b, off, rfl, hbl, hcell⟩ := HA.out.2 (by omega)
      have hx := List.getElem?_eq_getElem hlt
      obtain ⟨x, ex⟩ : ∃ x, x = l[k] := ⟨_, rfl⟩
      rw [← ex] at hx
      obtain ⟨x0, x1, x2⟩ := hcell k x hx
      have x0' := (hb.cell (p := ⟨b, _, none⟩) hbl).trans x0
      have x1' := (hb.cell (p := ⟨b, _, none⟩) hbl).trans x1
      have x2' := (hb.cell (p := ⟨b, _, none⟩) hbl).trans x2
      have b0 : (0 : Int) ≤ (k : Int) := by omega
      have b1 : (k : Int) < (l.length : Int) := by omega
      have HP := Lib.hid (push_any H1 (HA.out.1 x (List.mem_of_getElem? hx)) (by have := addAll_len (l.take k); have := List.length_take_le k l; omega))
      have HS := Lib.hid (addAll_snoc hx)
      have HF := Lib.hid (And.intro H1 hb)
      clear x0 x1 x2 ex hx hcell H1 hb
      go_wp2_with fail
      refine HP.out.mono ?_
      rintro e w4 ⟨rfl, v4, H4, hm4⟩
      have HE := Lib.hid (show (∃ v', Hp w4 w.heap.size h q m v' (addAll (l.take (k + 1)))) ∧ Below w.heap.size w w4 from ⟨⟨v4, by rw [HS.out]; exact H4⟩, HF.out.2.trans (hm4.below HF.out.1)⟩)
      clear H4 hm4
      go_wp2_with fail
      go_roundw
      case rel => exact ⟨k + 1, by go_num, by omega, HE.out⟩
      case measure => simp [intOf]; omega
    · obtain rfl : k = l.length := by omega
      have hS := addAll_len l
      rw [List.take_length] at H1
      generalize addAll l = S at H1 hS
      have HL := Lib.hid hS
      have HZ := Lib.hid hb
      have hS1 : (S.length : Int) ≤ 100 := by omega
      have hS0 : (0 : Int) ≤ (S.length : Int) := by omega
      clear hS hb
      have HAll := Lib.hid (all_any H1)
      have H1 := Lib.hid H1
      go_wp2_with fail
      refine HAll.out.mono ?_
      rintro e w4 ⟨u1, rfl, O4, hb4⟩
      have ap4 := O4.apart H1.out (Nat.le_refl _)
      have lt4 := O4.lt
      have H4 := H1.out.below hb4
      have z4 := HZ.out.trans (hb4.mono HZ.out.size)
      have O4 := O4.more HZ.out.size
      obtain ⟨A1, c1, hu1, -⟩ := O4.read
      subst hu1
      clear HAll HZ
      have hD := Lib.hid (due_any H4 now hnow (by have := HL.out; omega))
      have F4 := Lib.hid (And.intro H4 (And.intro z4 (And.intro O4 (And.intro ap4 lt4))))
      clear H4 z4 O4 ap4 lt4 H1 hb4
      go_wp2_with fail
      refine hD.out.mono ?_
      rintro e w5 ⟨u2, xs, rest, v5, rfl, hsp, hxs, hre, O5, H5, hk5, ho5⟩
      obtain ⟨H4, z4, O4, ap4, lt4⟩ := F4.out
      have hm5 : Moved w4 w5 q m v1 v5 := ⟨hk5, .inl ho5⟩
      have P5 := O4.moved hm5 ap4
      have z5 := z4.trans (hm5.below H4)
      obtain ⟨A2, c2, hu2, hs2, hn2⟩ := O5.shows
      subst hu2
      have hz2 := own_cap O5
      have hAll2 := Lib.hid (all_any H5)
      have F5 := Lib.hid (And.intro z5 (And.intro P5 (And.intro hs2 (And.intro hn2 hz2))))
      have HX := Lib.hid (And.intro hsp (And.intro hxs hre))
      clear H4 z4 O4 ap4 lt4 hm5 P5 z5 hs2 hn2 hz2 O5 H5 hk5 ho5 hsp hxs hre F4
      go_wp2_with fail
      refine hAll2.out.mono ?_
      rintro e w6 ⟨u3, rfl, O6, hb6⟩
      obtain ⟨z5, P5, hs2, hn2, hz2⟩ := F5.out
      have z6 := z5.trans (hb6.mono z5.size)
      have P6 := P5.below hb6
      have s2 := hs2.below hb6
      obtain ⟨A3, c3, hu3, hs3, hn3⟩ := O6.shows
      subst hu3
      have hz3 := own_cap O6
      have hlen2 : xs.length + rest.length = S.length := by rw [HX.out.1, List.length_append]
      have hlen3 : S.length ≤ 100 := by have := HL.out; omega
      have G6 := Lib.hid (And.intro z6 (And.intro P6 (And.intro s2 (And.intro hs3 (And.intro hlen2 hlen3)))))
      have G7 := Lib.hid (And.intro (fun e => And.intro (hz2 e) (hn2 e)) (fun e => And.intro (hz3 e) (hn3 e)))
      clear z5 P5 hs2 hn2 hz2 z6 P6 s2 hs3 hn3 hz3 O6 hb6 hlen2 hlen3 F5
      have hl1 : ([] : List It).length + xs.length ≤ 100000 := by have := G6.out.2.2.2.2; simp; omega
      have hl2 : ([] ++ xs : List It).length + rest.length ≤ 100000 := by have := G6.out.2.2.2.2; simp; omega
      have o0 : OwnIt w6 w6.heap.size (.slice none 0 0) [] := World.ownsRow_nil _ _ _ _
      have G8 := Lib.hid (And.intro hl1 hl2)
      have O0 := Lib.hid o0
      clear hl1 hl2 o0
      go_wp2_with (first
        | (at_builtin; refine wpList_append_it rfl _ _ rfl w6.heap.size (.slice none 0 0) [] xs rfl O0.out A2 c2 rfl G7.out.1 G6.out.2.2.1 G8.out.1 (Nat.le_refl _) ?_; intro u7 w7 O7 hg7 ho7)
        | (at_builtin; refine wpList_append_it rfl _ _ rfl w6.heap.size u7 ([] ++ xs) rest rfl O7 A3 c3 rfl G7.out.2 (G6.out.2.2.2.1.below (due_b7 hg7)) G8.out.2 hg7.size ?_; intro u8 w8 O8 hg8 ho8; obtain ⟨z8, P8, s28, s38, s88⟩ := due_b8 G6.out.1 G6.out.2.1 G6.out.2.2.1 G6.out.2.2.2.1 hg7 hg8 ho7 O8 HX.out.1; obtain ⟨A8, c8, hu8, hs8, -⟩ := s88.shows; subst hu8; have K8 := Lib.hid (And.intro s28 (And.intro s38 (And.intro hs8 P8.shows_of))); have Z8 := Lib.hid z8; clear z8 P8 s28 s38 s88 hs8 O8 hg8 ho8 O7 hg7 ho7))
      go_loop [50] (fun i => ∃ k : Nat, i = .int .i64 (k : Int) ∧ k ≤ xs.length) (fun i => xs.length - (intOf i).toNat)
      case atStart => exact ⟨0, rfl, Nat.zero_le _⟩
      case round =>
        obtain ⟨k, rfl, hk⟩ := hrel
        by_cases hlt : k < xs.length
        · have hxl : (xs.length : Int) ≤ 100 := by have := G6.out.2.2.2.2; omega
          obtain ⟨g, rfl, _, r⟩ := K8.out.1 (by omega)
          obtain ⟨y, hy⟩ : ∃ y, xs[k]? = some y := ⟨_, List.getElem?_eq_getElem hlt⟩
          obtain ⟨_, p1, _⟩ := r k y hy
          have b0 : (0 : Int) ≤ (k : Int) := by omega
          have b1 : (k : Int) < (xs.length : Int) := by omega
          have hle : decide (now < y.d) = false := by have := HX.out.2.1 y (List.mem_of_getElem? hy); simp; omega
          clear r hy
          go_wp2_with fail
          go_round
          case rel => exact ⟨k + 1, by go_num, by omega⟩
          case measure => simp [intOf]; omega
        · obtain rfl : k = xs.length := by omega
          go_wp2_with fail
          go_loop [63] (fun i => ∃ k : Nat, i = .int .i64 (k : Int) ∧ k ≤ rest.length) (fun i => rest.length - (intOf i).toNat)
          case atStart => exact ⟨0, rfl, Nat.zero_le _⟩
          case round =>
            obtain ⟨k, rfl, hk⟩ := hrel
            by_cases hlt : k < rest.length
            · have hxl : (rest.length : Int) ≤ 100 := by have := G6.out.2.2.2.2; omega
              obtain ⟨g, rfl, _, r⟩ := K8.out.2.1 (by omega)
              obtain ⟨y, hy⟩ : ∃ y, rest[k]? = some y := ⟨_, List.getElem?_eq_getElem hlt⟩
              obtain ⟨_, p1, _⟩ := r k y hy
              have b0 : (0 : Int) ≤ (k : Int) := by omega
              have b1 : (k : Int) < (rest.length : Int) := by omega
              have hle : decide (y.d ≤ now) = false := by have := HX.out.2.2 y (List.mem_of_getElem? hy); simp; omega
              clear r hy
              go_wp2_with fail
              go_round
              case rel => exact ⟨k + 1, by go_num, by omega⟩
              case measure => simp [intOf]; omega
            · obtain rfl : k = rest.length := by omega
              have hS := Lib.hid (same_yes w8 A8 A1 c8 c1 S (by have := G6.out.2.2.2.2.2; omega) K8.out.2.2.1 K8.out.2.2.2)
              go_wp2_with fail
              refine hS.out.mono ?_
              rintro e w9 ⟨rfl, j, rfl⟩
              go_wp2_with fail
              go_ret
              exact ⟨rfl, below_drewN Z8.out j⟩

theorem dueLaw_law (w : World) (A : Option Addr) (c : Nat) (l : List It) (now : Int) (hnow : 0 ≤ now ∧ now ≤ 18446744073709551615) (hA : ArgIts w A l) :
    Calls Try.prog 7 #[.slice A l.length c, .int .u64 now] w fun e w' => e = .returned (.bool true) ∧ Below w.heap.size w w' := by
  by_cases h : l.length ≤ 100
  · exact dueLaw_any w A c l now hnow hA h
  · exact dueLaw_long w A l.length c now (by omega)
end Go.Proofs.Ytleokeabcbepaaa
