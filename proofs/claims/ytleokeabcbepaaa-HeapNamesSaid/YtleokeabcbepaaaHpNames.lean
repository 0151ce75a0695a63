/-
  HeapNames.
-/
import Derived.Test.YtleokeabcbepaaaHpTwo
import Derived.Test.YtleokeabcbepaaaHpNil
namespace Go.Proofs.Ytleokeabcbepaaa
open Go.RowKit Go.Maps Go.ChangeMaps Go.Sort

set_option maxHeartbeats 16000000 in
set_option maxRecDepth 100000 in
theorem names_any (w : World) : Calls Try.prog 4 #[] w fun e w' => e = .returned (.bool true) ∧ Below w.heap.size w w' := by
  go_enter Try.func4, Try.ntmps4
  go_wp2_with fail
  refine (some_any w).mono ?_
  rintro e w1 ⟨h, q, m, v1, rfl, H1, z1⟩
  have hM := Lib.hid (move_some (x := ⟨1, 9, 0⟩) H1 (by decide) 4 7 (by decide) (by decide))
  have F1 := Lib.hid (And.intro H1 z1)
  clear H1 z1
  go_wp2_with fail
  refine hM.out.mono ?_
  rintro e w2 ⟨rfl, v2, H2, hm2⟩
  have z2 := F1.out.2.trans (hm2.below F1.out.1)
  have hM2 := Lib.hid (move_none (k := 9) H2 (by decide) (by decide) 0 0)
  have F2 := Lib.hid (And.intro H2 z2)
  clear H2 z2 hm2
  go_wp2_with fail
  refine hM2.out.mono ?_
  rintro e w3 ⟨rfl, rfl⟩
  have hF := Lib.hid (find_some (x := ⟨1, 4, 7⟩) F2.out.1 (by decide))
  go_wp2_with fail
  refine hF.out.mono ?_
  rintro e w4 ⟨rfl, hb4⟩
  have H4 := (F2.out.1.below hb4).alloc (.cells #[.int .i64 1, .int .u64 4, .int .u64 7] 31)
  have A4 := Blk.new w4 31 #[.int .i64 1, .int .u64 4, .int .u64 7]
  have nA4 := (F2.out.1.below hb4).fresh (Nat.le_refl _)
  have z4 := (F2.out.2.trans (hb4.mono F2.out.2.size)).alloc (by have := F2.out.2.size; have := hb4.size; omega) (.cells #[.int .i64 1, .int .u64 4, .int .u64 7] 31)
  have hT := Lib.hid (top_some (x := ⟨1, 4, 7⟩) (S := [⟨3, 5, 0⟩, ⟨2, 5, 1⟩]) H4)
  have F4 := Lib.hid (And.intro H4 (And.intro z4 (And.intro A4 nA4)))
  clear H4 A4 nA4 z4 hb4
  go_wp2_with fail
  refine hT.out.mono ?_
  rintro e w5 ⟨rfl, hb5⟩
  have H5 := (F4.out.1.below hb5).alloc (.cells #[.int .i64 1, .int .u64 4, .int .u64 7] 31)
  have A5 := (F4.out.2.2.1.same (hb5.block _ F4.out.2.2.1.lt)).alloc (.cells #[.int .i64 1, .int .u64 4, .int .u64 7] 31)
  have B5 := Blk.new w5 31 #[.int .i64 1, .int .u64 4, .int .u64 7]
  have nB5 := (F4.out.1.below hb5).fresh (Nat.le_refl _)
  have z5 := (F4.out.2.1.trans (hb5.mono F4.out.2.1.size)).alloc (by have := F4.out.2.1.size; have := hb5.size; omega) (.cells #[.int .i64 1, .int .u64 4, .int .u64 7] 31)
  have hD := Lib.hid (due_any H5 5 (by decide) (by decide))
  have F5 := Lib.hid (And.intro H5 (And.intro z5 (And.intro A5 (And.intro F4.out.2.2.2 (And.intro B5 nB5)))))
  clear H5 A5 B5 nB5 z5 hb5
  go_wp2_with fail
  refine hD.out.mono ?_
  rintro e w6 ⟨u, xs, rest, v6, rfl, sp, le, gt, O6, H6, hk6, ho6⟩
  obtain ⟨e1, e2⟩ := due_unique (now := 5) (xs := [⟨1, 4, 7⟩, ⟨3, 5, 0⟩, ⟨2, 5, 1⟩]) (r := []) (by rw [List.append_nil]; exact sp) (by decide) (by decide) le gt
  subst e1; subst e2
  obtain ⟨A, c, rfl, hA⟩ := O6.read
  obtain ⟨g, rfl, hg, -, hrow⟩ := hA (by decide)
  obtain ⟨r00, r01, r02⟩ := hrow 0 _ rfl
  obtain ⟨r10, r11, r12⟩ := hrow 1 _ rfl
  obtain ⟨r20, r21, r22⟩ := hrow 2 _ rfl
  have A6 := F5.out.2.2.1.kept hk6 F5.out.2.2.2.1
  have B6 := F5.out.2.2.2.2.1.kept hk6 F5.out.2.2.2.2.2
  have z6 := F5.out.2.1.trans (Moved.below F5.out.1 ⟨hk6, .inl ho6⟩)
  have hL := Lib.hid (len_any H6)
  have F6 := Lib.hid (And.intro H6 z6)
  have a0 := A6.cell 0
  have a1 := A6.cell 1
  have a2 := A6.cell 2
  have b0 := B6.cell 0
  have b1 := B6.cell 1
  have b2 := B6.cell 2
  have al := A6.lt
  have bl := B6.lt
  simp at a0 a1 a2 b0 b1 b2 r00 r10 r20
  clear A6 B6 z6 H6 O6 hk6 ho6 r01 r02 r11 r12 r21 r22 hrow hA sp le gt
  go_wp2_with (go_at_call 26; refine hL.out.mono ?_; rintro e w7 ⟨rfl, rfl⟩)
  clear a0 a1 a2 b0 b1 b2 r00 r10 r20 al bl
  have hP := Lib.hid (push_new (x := ⟨-5, 18446744073709551615, 0⟩) F6.out.1 (by decide) (by decide) (by decide))
  go_wp2_with fail
  refine hP.out.mono ?_
  rintro e w8 ⟨rfl, v8, H8, hm8⟩
  have z8 := F6.out.2.trans (hm8.below F6.out.1)
  have hD8 := Lib.hid (due_any H8 18446744073709551614 (by decide) (by decide))
  have F8 := Lib.hid (And.intro H8 z8)
  clear H8 z8 hm8
  go_wp2_with fail
  refine hD8.out.mono ?_
  rintro e w9 ⟨u, xs, rest, v9, rfl, sp, le, gt, O9, H9, hk9, ho9⟩
  obtain ⟨e1, e2⟩ := due_unique (now := 18446744073709551614) (xs := []) (r := [⟨-5, 18446744073709551615, 0⟩]) (by rw [List.nil_append]; exact sp) (by decide) (by decide) le gt
  subst e1; subst e2
  obtain ⟨A9, c9, rfl, -⟩ := O9.read
  have z9 := F8.out.2.trans (Moved.below F8.out.1 ⟨hk9, .inl ho9⟩)
  have hD9 := Lib.hid (due_any H9 18446744073709551615 (by decide) (by decide))
  have F9 := Lib.hid (And.intro H9 z9)
  clear H9 z9 O9 hk9 ho9 sp le gt
  go_wp2_with fail
  refine hD9.out.mono ?_
  rintro e wa ⟨u, xs, rest, va, rfl, sp, le, gt, Oa, Ha, hka, hoa⟩
  obtain ⟨e1, e2⟩ := due_unique (now := 18446744073709551615) (xs := [⟨-5, 18446744073709551615, 0⟩]) (r := []) (by rw [List.append_nil]; exact sp) (by decide) (by decide) le gt
  subst e1; subst e2
  obtain ⟨Aa, ca, rfl, hAa⟩ := Oa.read
  obtain ⟨ga, rfl, hga, -, hrow⟩ := hAa (by decide)
  obtain ⟨r00, r01, r02⟩ := hrow 0 _ rfl
  have za := F9.out.2.trans (Moved.below F9.out.1 ⟨hka, .inl hoa⟩)
  simp at r00
  have Fa := Lib.hid za
  clear r01 r02 hrow hAa Oa Ha hka hoa sp le gt za
  have Zb := Lib.hid (And.intro (Blk.new wa 49 #[.pointer none]) (Fa.out.alloc Fa.out.size (.cells #[.pointer none] 49)))
  go_wp2_with fail
  refine (top_nil _).mono ?_
  rintro e wb ⟨rfl, hbb⟩
  have Zc := (Zb.out.1.same (hbb.block _ Zb.out.1.lt)).alloc (.cells #[.int .i64 0, .int .u64 0, .int .u64 0] 31)
  have zb := (Zb.out.2.trans (hbb.mono Zb.out.2.size)).alloc (by have := Zb.out.2.size; have := hbb.size; omega) (.cells #[.int .i64 0, .int .u64 0, .int .u64 0] 31)
  have hPz := Lib.hid (pop_zero _ wa.heap.size (by have := Zc.cell 0; simpa using this) Zc.lt)
  have Fb := Lib.hid (And.intro Zc zb)
  clear Zc zb hbb
  go_wp2_with fail
  refine hPz.out.mono ?_
  rintro e wc ⟨rfl, hbc⟩
  have Zd := (Fb.out.1.same (hbc.block _ Fb.out.1.lt)).alloc (.cells #[.int .i64 0, .int .u64 0, .int .u64 0] 31)
  have zc := (Fb.out.2.trans (hbc.mono Fb.out.2.size)).alloc (by have := Fb.out.2.size; have := hbc.size; omega) (.cells #[.int .i64 0, .int .u64 0, .int .u64 0] 31)
  have Fc := Lib.hid (And.intro Zd zc)
  clear Zd zc hbc
  go_wp2_with fail
  refine (take_nil _ 1).mono ?_
  rintro e wd ⟨rfl, hbd⟩
  have Ze := (Fc.out.1.same (hbd.block _ Fc.out.1.lt)).alloc (.cells #[.int .i64 0, .int .u64 0, .int .u64 0] 31)
  have zd := (Fc.out.2.trans (hbd.mono Fc.out.2.size)).alloc (by have := Fc.out.2.size; have := hbd.size; omega) (.cells #[.int .i64 0, .int .u64 0, .int .u64 0] 31)
  have Fd := Lib.hid (And.intro Ze zd)
  clear Ze zd hbd
  go_wp2_with fail
  refine (alive_any _).mono ?_
  rintro e we ⟨rfl, hbe⟩
  have Zf := Fd.out.1.same (hbe.block _ Fd.out.1.lt)
  have ze := Fd.out.2.trans (hbe.mono Fd.out.2.size)
  have Fe := Lib.hid (And.intro Zf ze)
  clear Zf ze hbe
  go_wp2_with fail
  refine (push_nil _ 0 0 0).mono ?_
  rintro e wf ⟨rfl, hbf⟩
  have Zg := Fe.out.1.same (hbf.block _ Fe.out.1.lt)
  have zf := Fe.out.2.trans (hbf.mono Fe.out.2.size)
  have c0 : wf.cell? ⟨wa.heap.size, 0, none⟩ = some (.pointer none) := by have := Zg.cell 0; simpa using this
  have hMz := Lib.hid (move_zero wf wa.heap.size c0 1 1 1)
  have hLz := Lib.hid (all_zero wf wa.heap.size c0)
  have Ff := Lib.hid zf
  clear Zg zf hbf c0
  go_wp2_with fail
  refine hMz.out.mono ?_
  rintro e wg ⟨rfl, rfl⟩
  go_wp2_with fail
  refine (len_nil _).mono ?_
  rintro e wg ⟨rfl, rfl⟩
  go_wp2_with fail
  refine hLz.out.mono ?_
  rintro e wg ⟨rfl, rfl⟩
  go_wp2_with fail
  refine (due_nil _ _).mono ?_
  rintro e wg ⟨rfl, rfl⟩
  go_wp2_with fail
  go_ret
  exact ⟨rfl, Ff.out⟩
end Go.Proofs.Ytleokeabcbepaaa
