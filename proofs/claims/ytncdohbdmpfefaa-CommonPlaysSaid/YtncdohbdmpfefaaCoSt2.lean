/-
  The chapter's first examples, and Common, of the first thing that a law keeps.
-/
import Derived.Test.YtncdohbdmpfefaaCoSt
import Derived.Test.YtncdohbdmpfefaaCoCommon
import Derived.Laws.StructEq
namespace Go.Proofs.Ytncdohbdmpfefaa
open Go.RowKit Go.Maps Go.ChangeMaps

theorem st_common {Q2 : World → (Nat → Prop) → Prop} {w W : World} {s : Nat} {L : List En} {T : List Int} {nx : Int} {X : List Fb} (hQ2 : Stable Q2) (H : St (SetQ w.heap.size s L T nx) Q2 w W X) {t : Int} (ht : U t) :
    Calls Try.prog 17 #[.pointer (some ⟨s, 0, none⟩), .int .u64 t] W fun e W' => e = .returned (.int .i64 (comE T t)) ∧ St (SetQ w.heap.size s L (comT T t) nx) Q2 w W' X := by
  obtain ⟨O1, O2, q1, r⟩ := H
  refine (common_any q1 ht).mono ?_
  rintro e W' ⟨rfl, O, hc, hm⟩
  exact ⟨rfl, r.turn hQ2 hc hm (fun i e => (hc.lt e).1)⟩
theorem st_start (w : World) : St NoQ NoQ w w [] :=
  ⟨fun _ => False, fun _ => False, fun _ e => e, fun _ e => e, fun _ e => e.elim, fun _ e => e.elim (fun e => e.elim) (fun e => e.elim), Below.refl _ _, fun f hf => by simp at hf⟩

instance (n : Int) : Decidable (U n) := by unfold U; infer_instance
theorem u_of {a : Int} (h0 : 0 ≤ a) (h1 : a ≤ 18446744073709551615) : U a := ⟨h0, h1⟩
set_option maxHeartbeats 4000000 in
set_option maxRecDepth 100000 in
theorem alive_any (w : World) : Calls Try.prog 26 #[] w fun e w' => e = .returned (.bool true) ∧ Below w.heap.size w w' := by
  have L1 : addT [] [10] 0 1 0 10 = [⟨⟨1, 10, 0⟩, some 10⟩] := by decide
  have L2 : addT [⟨⟨1, 10, 0⟩, some 10⟩] [10] 1 2 3 10 = [⟨⟨1, 10, 0⟩, some 10⟩, ⟨⟨2, 13, 1⟩, some 10⟩] := by decide
  have L3 : addT [⟨⟨1, 10, 0⟩, some 10⟩, ⟨⟨2, 13, 1⟩, some 10⟩] [10] 2 3 3 5 = [⟨⟨1, 10, 0⟩, some 10⟩, ⟨⟨2, 13, 1⟩, some 10⟩, ⟨⟨3, 8, 2⟩, none⟩] := by decide
  have C1 : comT [] 10 = [10] := by decide
  have N1 : addN 0 1 = 1 := rfl
  have N2 : addN 1 2 = 2 := rfl
  have N3 : addN 2 3 = 3 := rfl
  have hT : topI (ord (xs [⟨⟨1, 10, 0⟩, some 10⟩, ⟨⟨2, 13, 1⟩, some 10⟩, ⟨⟨3, 8, 2⟩, none⟩])) = (⟨3, 8, 2⟩, true) := by decide
  have hH : ((heads [⟨⟨1, 10, 0⟩, some 10⟩, ⟨⟨2, 13, 1⟩, some 10⟩, ⟨⟨3, 8, 2⟩, none⟩] [10]).length : Int) = 2 := by decide
  have hD : dueD 11 (xs [⟨⟨1, 10, 0⟩, some 10⟩, ⟨⟨2, 13, 1⟩, some 10⟩, ⟨⟨3, 8, 2⟩, none⟩]) = [⟨3, 8, 2⟩, ⟨1, 10, 0⟩] := by decide
  go_enter Try.func26, Try.ntmps26
  go_wp2_with fail
  refine (st_new noQ_stable (st_start w)).mono ?_
  rintro e w1 ⟨s, rfl, H1⟩
  have H1 := Lib.hid H1
  go_wp2_with fail
  refine (st_common noQ_stable H1.out (t := 10) (by decide)).mono ?_
  rintro e w2 ⟨rfl, H2⟩
  rw [C1] at H2
  have H2 := Lib.hid H2
  go_wp2_with fail
  refine (st_add noQ_stable H2.out (id := 1) (now := 0) (after := 10) (by decide) (by decide) (by decide) (by decide) (by decide)).mono ?_
  rintro e w3 ⟨rfl, H3⟩
  rw [L1, N1] at H3
  have H3 := Lib.hid H3
  go_wp2_with fail
  refine (st_add noQ_stable H3.out (id := 2) (now := 3) (after := 10) (by decide) (by decide) (by decide) (by decide) (by decide)).mono ?_
  rintro e w4 ⟨rfl, H4⟩
  rw [L2, N2] at H4
  have H4 := Lib.hid H4
  go_wp2_with fail
  refine (st_add noQ_stable H4.out (id := 3) (now := 3) (after := 5) (by decide) (by decide) (by decide) (by decide) (by decide)).mono ?_
  rintro e w5 ⟨rfl, H5⟩
  rw [L3, N3] at H5
  have H5 := Lib.hid H5
  go_wp2_with fail
  refine (st_top noQ_stable H5.out).mono ?_
  rintro e w6 ⟨rfl, H6⟩
  rw [hT]
  have H6 := Lib.hid (H6.box (setQ_stable _ _ _ _ _) noQ_stable #[.int .i64 3, .int .u64 8, .int .u64 2] 44)
  simp only [aggI]
  go_wp2_with fail
  refine (st_heap H6.out).mono ?_
  rintro e w7 ⟨rfl, rfl⟩
  rw [hH]
  go_wp2_with fail
  refine (st_due noQ_stable H6.out (now := 11) (by decide)).mono ?_
  rintro e w8 ⟨A, c, rfl, H8⟩
  rw [hD] at H8 ⊢
  have hr := OwnI.rd (H8.fact (by simp) : Fb.holds w8 (.row (.slice A [(⟨3, 8, 2⟩ : It), ⟨1, 10, 0⟩].length c) [⟨3, 8, 2⟩, ⟨1, 10, 0⟩]))
  obtain ⟨g, rfl, hg, hr⟩ := hr (by simp)
  obtain ⟨p0, p1, p2⟩ := hr 0 _ rfl
  obtain ⟨q0, q1, q2⟩ := hr 1 _ rfl
  have hb := H8.fact (f := .blk w6.heap.size 44 #[.int .i64 3, .int .u64 8, .int .u64 2]) (by simp)
  have b0 := Blk.cell hb 0
  have b1 := Blk.cell hb 1
  have b2 := Blk.cell hb 2
  have bl := Blk.lt hb
  simp at p0 p1 p2 q0 q1 q2 b0 b1 b2
  have HE := Lib.hid H8.bel
  clear hb hr H8
  simp only [List.length_cons, List.length_nil]
  go_wp2_with fail
  go_ret
  exact ⟨rfl, HE.out⟩
end Go.Proofs.Ytncdohbdmpfefaa
