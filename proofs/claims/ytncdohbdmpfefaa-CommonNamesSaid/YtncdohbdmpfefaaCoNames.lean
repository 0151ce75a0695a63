/-
  CommonNames.
-/
import Derived.Test.YtncdohbdmpfefaaCoSt2
namespace Go.Proofs.Ytncdohbdmpfefaa
open Go.RowKit Go.Maps Go.ChangeMaps

/-- The timeouts that are common behind the k-th round. -/
def nT (k : Nat) : List Int := 10 :: (List.range k).map fun j : Nat => 100 + (j : Int)
theorem nT_len (k : Nat) : (nT k).length = k + 1 := by simp [nT]
theorem nT_step {k : Nat} (h : k < 31) : comT (nT k) (100 + (k : Int)) = nT (k + 1) := by
  unfold comT
  rw [if_neg]
  · unfold nT
    rw [List.range_succ, List.map_append]; rfl
  · rintro (e | e | e)
    · omega
    · unfold nT at e
      rcases List.mem_cons.1 e with e | e
      · omega
      · obtain ⟨j, hj, e⟩ := List.mem_map.1 e
        have := List.mem_range.1 hj
        omega
    · rw [nT_len] at e; omega

set_option maxHeartbeats 16000000 in
set_option maxRecDepth 100000 in
theorem names_any (w : World) : Calls Try.prog 4 #[] w fun e w' => e = .returned (.bool true) ∧ Below w.heap.size w w' := by
  have L1 : addT [] [10] 0 2 3 10 = [⟨⟨2, 13, 0⟩, some 10⟩] := by decide
  have L2 : addT [⟨⟨2, 13, 0⟩, some 10⟩] [10] 1 2 20 10 = [⟨⟨2, 30, 1⟩, some 10⟩] := by decide
  have L3 : addT [⟨⟨2, 30, 1⟩, some 10⟩] [10] 2 (-1) 0 0 = [⟨⟨2, 30, 1⟩, some 10⟩] := by decide
  have L4 : addT [⟨⟨2, 30, 1⟩, some 10⟩] (nT 31) 2 7 5 18446744073709551615 = [⟨⟨2, 30, 1⟩, some 10⟩, ⟨⟨7, 18446744073709551615, 2⟩, none⟩] := by decide
  have C1 : comT [] 10 = [10] := by decide
  have E1 : comE [] 10 = 0 := by decide
  have C2 : comT [10] 10 = [10] := by decide
  have E2 : comE [10] 10 = 90 := by decide
  have C3 : comT [10] 18446744073709551615 = [10] := by decide
  have E3 : comE [10] 18446744073709551615 = 90 := by decide
  have C5 : comT (nT 31) 500 = nT 31 := by decide
  have E5 : comE (nT 31) 500 = 90 := by decide
  have N1 : addN 0 2 = 1 := rfl
  have N2 : addN 1 2 = 2 := rfl
  have N3 : addN 2 (-1) = 2 := rfl
  have N4 : addN 2 7 = 3 := rfl
  have A4 : addE (-1) = 2 := rfl
  have hO : ord (xs [⟨⟨2, 30, 1⟩, some 10⟩]) = [⟨2, 30, 1⟩] := by decide
  have hF : getI [⟨⟨2, 30, 1⟩, some 10⟩, ⟨⟨7, 18446744073709551615, 2⟩, none⟩] 7 = ⟨7, 18446744073709551615, 2⟩ := by decide
  have hF2 : hasI [⟨⟨2, 30, 1⟩, some 10⟩, ⟨⟨7, 18446744073709551615, 2⟩, none⟩] 7 = true := by decide
  have hD : (dueD 18446744073709551615 (xs [⟨⟨2, 30, 1⟩, some 10⟩, ⟨⟨7, 18446744073709551615, 2⟩, none⟩])).length = 2 := by decide
  go_enter Try.func4, Try.ntmps4
  go_wp2_with fail
  refine (st_new noQ_stable (st_start w)).mono ?_
  rintro e w1 ⟨s, rfl, H⟩
  have H1 := Lib.hid H; clear H
  go_wp2_with fail
  refine (st_common noQ_stable H1.out (t := 10) (by decide)).mono ?_
  rintro e w2 ⟨rfl, H⟩
  rw [C1] at H
  rw [E1]
  have H2 := Lib.hid H; clear H
  go_wp2_with fail
  refine (st_add noQ_stable H2.out (id := 2) (now := 3) (after := 10) (by decide) (by decide) (by decide) (by decide) (by decide)).mono ?_
  rintro e w3 ⟨rfl, H⟩
  rw [L1, N1] at H
  have H3 := Lib.hid H; clear H
  go_wp2_with fail
  refine (st_add noQ_stable H3.out (id := 2) (now := 20) (after := 10) (by decide) (by decide) (by decide) (by decide) (by decide)).mono ?_
  rintro e w4 ⟨rfl, H⟩
  rw [L2, N2] at H
  have H4 := Lib.hid H; clear H
  go_wp2_with fail
  refine (st_all noQ_stable H4.out).mono ?_
  rintro e w5 ⟨A, c, rfl, H⟩
  rw [hO] at H ⊢
  simp only [List.length_cons, List.length_nil] at H ⊢
  have H5 := Lib.hid H; clear H
  go_wp2_with fail
  refine (st_common noQ_stable H5.out (t := 10) (by decide)).mono ?_
  rintro e w6 ⟨rfl, H⟩
  rw [C2] at H
  rw [E2]
  have H6 := Lib.hid H; clear H
  go_wp2_with fail
  refine (st_common noQ_stable H6.out (t := 18446744073709551615) (by decide)).mono ?_
  rintro e w7 ⟨rfl, H⟩
  rw [C3] at H
  rw [E3]
  have H7 := Lib.hid H; clear H
  go_wp2_with fail
  refine (st_add noQ_stable H7.out (id := -1) (now := 0) (after := 0) (by decide) (by decide) (by decide) (by decide) (by decide)).mono ?_
  rintro e w8 ⟨rfl, H⟩
  rw [L3, N3] at H
  rw [A4]
  have H8 := Lib.hid H; clear H
  go_wp2_with fail
  go_loopw [7] (fun i wr => ∃ k : Nat, i = .int .u64 (100 + (k : Int)) ∧ k ≤ 31 ∧ St (SetQ w.heap.size s [⟨⟨2, 30, 1⟩, some 10⟩] (nT k) 2) NoQ w wr [.row (.slice A (0 + 1) c) [⟨2, 30, 1⟩]]) (fun i _ => 131 - (intOf i).toNat)
  case atStart => exact ⟨0, rfl, Nat.zero_le _, H8.out⟩
  case round =>
    obtain ⟨k, rfl, hk, H⟩ := hrel
    by_cases hlt : k < 31
    · have H9 := Lib.hid H; clear H
      have b1 : (100 + (k : Int)) < 131 := by omega
      go_wp2_with fail
      refine (st_common noQ_stable H9.out (t := 100 + (k : Int)) (u_of (by omega) (by omega))).mono ?_
      rintro e w9 ⟨rfl, H⟩
      rw [nT_step hlt] at H
      have H10 := Lib.hid H; clear H
      go_wp2_with fail
      go_roundw
      case rel => exact ⟨k + 1, by go_num, by omega, H10.out⟩
      case measure => simp [intOf]; omega
    · obtain rfl : k = 31 := by omega
      have H9 := Lib.hid H; clear H
      go_wp2_with fail
      refine (st_common noQ_stable H9.out (t := 500) (by decide)).mono ?_
      rintro e w9 ⟨rfl, H⟩
      rw [C5] at H
      rw [E5]
      have H10 := Lib.hid H; clear H
      go_wp2_with fail
      refine (st_add noQ_stable H10.out (id := 7) (now := 5) (after := 18446744073709551615) (by decide) (by decide) (by decide) (by decide) (by decide)).mono ?_
      rintro e w10 ⟨rfl, H⟩
      rw [L4, N4] at H
      have H11 := Lib.hid H; clear H
      go_wp2_with fail
      refine (st_find noQ_stable H11.out (j := 7) (by decide)).mono ?_
      rintro e w11 ⟨rfl, H⟩
      rw [hF, hF2]
      have H12 := Lib.hid (H.box (setQ_stable _ _ _ _ _) noQ_stable #[.int .i64 7, .int .u64 18446744073709551615, .int .u64 2] 44); clear H
      simp only [aggI]
      go_wp2_with fail
      refine (ctop_nil _).mono ?_
      rintro e w12 ⟨rfl, hb⟩
      have H := H12.out.quiet (setQ_stable _ _ _ _ _) noQ_stable hb
      have H13 := Lib.hid (H.box (setQ_stable _ _ _ _ _) noQ_stable #[.int .i64 0, .int .u64 0, .int .u64 0] 44); clear H hb
      simp only [aggI]
      go_wp2_with fail
      refine (alive_any _).mono ?_
      rintro e w13 ⟨rfl, hb⟩
      have H := H13.out.quiet (setQ_stable _ _ _ _ _) noQ_stable hb
      have hr := OwnI.rd (H.fact (by simp) : Fb.holds w13 (.row (.slice A (0 + 1) c) [⟨2, 30, 1⟩]))
      obtain ⟨g, rfl, hg, hr⟩ := hr (by simp)
      obtain ⟨p0, p1, p2⟩ := hr 0 _ rfl
      have hb2 := H.fact (f := .blk w11.heap.size 44 #[.int .i64 7, .int .u64 18446744073709551615, .int .u64 2]) (by simp)
      have b1 := Blk.cell hb2 1
      have bl := Blk.lt hb2
      simp at p1 b1
      have H14 := Lib.hid H
      clear H hb hb2 hr p0 p2
      go_wp2_with (first
        | (go_at_call 10; refine (cadd_nil _ _ _ _).mono ?_; rintro e w' ⟨rfl, rfl⟩)
        | (go_at_call 17; refine (common_nil _ _).mono ?_; rintro e w' ⟨rfl, rfl⟩)
        | (go_at_call 22; refine (clen_nil _).mono ?_; rintro e w' ⟨rfl, rfl⟩)
        | (go_at_call 12; refine (ccut_nil _ _).mono ?_; rintro e w' ⟨rfl, rfl⟩)
        | fail)
      refine (st_due noQ_stable H14.out (now := 18446744073709551615) (by decide)).mono ?_
      rintro e w14 ⟨A, c, rfl, H⟩
      rw [hD]
      have HE := Lib.hid H.bel; clear H
      go_wp2_with fail
      go_ret
      exact ⟨rfl, HE.out⟩
end Go.Proofs.Ytncdohbdmpfefaa
