/-
  Add, New; calls on none.
-/
import Derived.Test.YtncdohbdmpfefaaCoSet
import Derived.Test.YtncdohbdmpfefaaTkDl
namespace Go.Proofs.Ytncdohbdmpfefaa
open Go.RowKit Go.Maps Go.ChangeMaps

/-- New: a set without items, all of whose blocks are new. -/
theorem newKept_any (w : World) : Calls Try.prog 28 #[] w fun e w' =>
    ∃ k mp hp q m v, e = .returned (.pointer (some ⟨k, 0, none⟩)) ∧ (∀ bo qb F G, Cj w' w.heap.size k mp hp (.slice none 0 0) F G bo qb q m v [] [] [] 0 0) ∧ Below w.heap.size w w' := by
  have hmm := @run_makeMap Try.prog
  go_enter Try.func28, Try.ntmps28
  go_wp2_with fail
  refine (new_any w w.heap.size (Nat.le_refl _)).mono ?_
  rintro e w1 ⟨hp, q, m, v, rfl, hH, hb1, l1, l2, l3, l4⟩
  have H1 := Lib.hid (And.intro hH (And.intro hb1 (And.intro l1 (And.intro l2 (And.intro l3 l4)))))
  clear hH hb1 l1 l2 l3 l4
  go_wp2_with fail
  go_ret
  obtain ⟨hH, hb1, l1, l2, l3, l4⟩ := H1.out
  have e1 : (w1.alloc (.map #[] 0)).heap.size = w1.heap.size + 1 := World.size_alloc _ _
  have b2 := Blk.new (w1.alloc (.map #[] 0)) 66 #[.pointer (some ⟨hp, 0, none⟩), .slice none 0 0, .map (some w1.heap.size), .int .u64 0]
  rw [e1] at b2
  have kk : Kept (fun _ => False) w1 ((w1.alloc (.map #[] 0)).alloc (.cells #[.pointer (some ⟨hp, 0, none⟩), .slice none 0 0, .map (some w1.heap.size), .int .u64 0] 66)) := ((Kept.refl _ w1).alloc _).alloc _
  have hz := hb1.size
  refine ⟨w1.heap.size + 1, w1.heap.size, hp, q, m, v, rfl, fun bo qb F G => ⟨⟨b2, RowK.own_nil _ _, by simp, by simp, by intro t ht; simp at ht, inv_nil⟩, ?_, hH.kept kk (fun _ _ e => e), fun i hi => ?_, fun i hi => ?_⟩, hb1.trans (kk.below (fun _ e => e.elim) hz)⟩
  · have e3 : placeF bo [] = fun _ => none := by funext j; simp [placeF, hasI]
    rw [e3]
    exact (Pq.made w1).alloc _
  · have := (hH.lt hi).1
    refine ⟨?_, by omega⟩
    rintro (e | e | ⟨t, ht, _⟩ | ⟨a, ha, _⟩)
    · omega
    · cases e
    · simp at ht
    · simp at ha
  · rcases hi with (e | e | ⟨t, ht, _⟩ | ⟨a, ha, _⟩) | e
    · omega
    · cases e
    · simp at ht
    · simp at ha
    · omega
theorem cnew_any (w : World) : Calls Try.prog 9 #[] w fun e w' => ∃ s Own, e = .returned (.pointer (some ⟨s, 0, none⟩)) ∧ Cm w' w.heap.size s Own [] [] 0 ∧ Below w.heap.size w w' := by
  go_enter Try.func9, Try.ntmps9
  go_wp2_with fail
  refine (newKept_any w).mono ?_
  rintro e w1 ⟨k, mp, hp, q, m, v, rfl, hC, hb1⟩
  have H1 := Lib.hid (And.intro hC hb1)
  clear hC hb1
  go_wp2_with fail
  go_ret
  obtain ⟨hC, hb1⟩ := H1.out
  have kk : Kept (fun _ => False) w1 (w1.alloc (.cells #[.pointer (some ⟨k, 0, none⟩)] 59)) := (Kept.refl _ w1).alloc _
  exact ⟨w1.heap.size, _, rfl, ⟨k, mp, hp, _, fun x => x, fun x => x, fun _ => 0, fun _ => 0, q, m, v, [], Blk.new _ _ _, (hC _ _ _ _).kept kk (fun _ _ e => e), List.Perm.refl _, fun i => Iff.rfl, hb1.size⟩, hb1.trans (kk.below (fun _ e => e.elim) hb1.size)⟩

section
variable {w : World} {B s : Nat} {Own : Nat → Prop} {L : List En} {T : List Int} {nx : Int}
/-- What Add answers, and what is there behind it. -/
def addE (id : Int) : Int := if id < 0 then 2 else 0
def addT (L : List En) (T : List Int) (nx id now after : Int) : List En := if id < 0 then L else addL L T ⟨id, dl now after, nx⟩ after
def addN (nx id : Int) : Int := if id < 0 then nx else nx + 1
theorem dl_u {now after : Int} (h : U now) (g : U after) : U (dl now after) := by
  obtain ⟨h0, h1⟩ := h
  obtain ⟨g0, g1⟩ := g
  unfold dl U
  split <;> omega

/-- Behind adds++. -/
theorem Cm.counted {w : World} {B s k mp hp : Nat} {qv : Value} {F G : Nd → Nd} {bo qb : Int → Nat} {q m : Nat} {v : Value} {S : List It} {L : List En} {T : List Int} {nx ad ad' : Int} (hs : Blk w s 59 #[.pointer (some ⟨k, 0, none⟩)]) (h : Cj w B k mp hp qv F G bo qb q m v S L T nx ad) :
    Cj (w.setCell ⟨k, 3, none⟩ (.int .u64 ad')) B k mp hp qv F G bo qb q m v S L T nx ad' ∧ Blk (w.setCell ⟨k, 3, none⟩ (.int .u64 ad')) s 59 #[.pointer (some ⟨k, 0, none⟩)] := by
  have kk : Kept (fun i => i = k) w (w.setCell ⟨k, 3, none⟩ (.int .u64 ad')) := (Kept.refl (fun i => i = k) w).setCell (p := ⟨k, 3, none⟩) rfl _
  have nf : ¬ Fn bo qb L T k := h.kr.k_not
  refine ⟨⟨⟨by simpa using h.kr.kb.set_ 3 (.int .u64 ad'), RowK.own_kept h.kr.row kk (fun i hi e => (h.kr.row_not hi).1 e), fun t ht => (h.kr.qs t ht).kept kk (fun e => nf (.inl ⟨t, ht, e⟩)), fun a ha => (h.kr.pl a ha).kept kk (fun e => nf (.inr ⟨a, ha, e⟩)), h.kr.rings, h.kr.inv⟩,
    h.pm.kept kk (fun e => h.mp_not (.inl e)), h.hh.kept kk (fun i hi e => (h.a1 i hi).1 (.inl e)), h.a1, h.lo⟩, hs.kept kk (fun e => fo_not hs h (.inl (.inl e)))⟩

set_option maxHeartbeats 4000000 in
set_option maxRecDepth 100000 in
theorem cadd_any (H : Cm w B s Own L T nx) {id now after : Int} (hid : -9223372036854775808 ≤ id ∧ id ≤ 9223372036854775807) (hnow : U now) (haf : U after) (h1 : nx < 1000000) (hl : L.length < 500) :
    Calls Try.prog 10 #[.pointer (some ⟨s, 0, none⟩), .int .i64 id, .int .u64 now, .int .u64 after] w fun e w' =>
      e = .returned (.int .i64 (addE id)) ∧ ∃ Own', Cm w' B s Own' (addT L T nx id now after) T (addN nx id) ∧ Mv w w' Own Own' := by
  have HC := Lib.hid H
  have hMd := (show ∃ k, w.cell? ⟨s, 0, none⟩ = some (.pointer (some ⟨k, 0, none⟩)) from by
    obtain ⟨k, mp, hp, qv, F, G, bo, qb, q, m, v, S, hb, _⟩ := H
    exact ⟨k, hb.cell 0⟩)
  obtain ⟨k0, c0⟩ := hMd
  have hM := Lib.hid (cmade_yes w s k0 c0)
  by_cases hneg : id < 0
  · have e1 : addE id = 2 := if_pos hneg
    have e2 : addT L T nx id now after = L := if_pos hneg
    have e3 : addN nx id = nx := if_pos hneg
    rw [e1, e2, e3]
    clear e1 e2 e3 H c0
    go_enter Try.func10, Try.ntmps10
    go_wp2_with (go_at_call 29; refine hM.out.mono ?_; rintro e w' ⟨rfl, rfl⟩)
    go_ret
    exact ⟨rfl, Own, HC.out, Mv.of_kept (Kept.refl _ _)⟩
  · have e1 : addE id = 0 := if_neg hneg
    have e2 : addT L T nx id now after = addL L T ⟨id, dl now after, nx⟩ after := if_neg hneg
    have e3 : addN nx id = nx + 1 := if_neg hneg
    rw [e1, e2, e3]
    have hn0 : 0 ≤ id := by omega
    have HCut := Lib.hid (ccut_any H hid)
    have hdl := dl_u hnow haf
    have HD := Lib.hid (fun w => dl_any now after w hnow haf)
    have HN := Lib.hid (And.intro hid (And.intro hdl (And.intro h1 (And.intro hl H.inv.n0))))
    clear e1 e2 e3 H c0 hid hdl hnow haf h1 hl hneg
    go_enter Try.func10, Try.ntmps10
    go_wp2_with (go_at_call 29; refine hM.out.mono ?_; rintro e w' ⟨rfl, rfl⟩)
    refine HCut.out.mono ?_
    rintro e w1 ⟨rfl, Own1, H1, m1⟩
    obtain ⟨k, mp, hp, qv, F, G, bo, qb, q, m, v, S, hb, hc, hS, ho, hB⟩ := H1
    have s1 := hb.cell 0
    have d3 := hc.kr.kb.cell 3
    simp at s1 d3
    have ls := hb.lt
    have lk := hc.kr.kb.lt
    have HK := Lib.hid (kadd_any (hc.drew) hS (x := ⟨id, dl now after, nx⟩) ⟨HN.out.1, HN.out.2.1, by have := HN.out.2.2.2.2; have := HN.out.2.2.1; constructor <;> (simp only; omega)⟩ rfl HN.out.2.2.1 (Nat.lt_of_le_of_lt (List.length_filter_le _ _) HN.out.2.2.2.1) cutL_has after)
    have HB := Lib.hid (And.intro hb (And.intro hc (And.intro ho (And.intro hB m1))))
    clear hb hc hS ho hB m1
    go_wp2_with fail
    refine wp_region_still_tail 17 (by kernel_rfl) (by kernel_rfl) ?_
    change wpStill _ _ w1.drew _ _ _
    simp only [List.take_succ_cons, List.take_zero, List.drop_succ_cons, List.drop_zero]
    repeat still_step
    still_call ((HD.out w1.drew).mono fun _ _ ⟨he, hw⟩ => ⟨he, hw.symm⟩)
    repeat still_step
    refine wpStill_nil ?_
    change wpList _ _ _ _ _ w1.drew
    go_wp2_with fail
    refine HK.out.mono ?_
    rintro en w2 ⟨rfl, F', G', bo', v', S', hc2, hS2, hm2⟩
    have hs2 : Blk w2 s 59 #[.pointer (some ⟨k, 0, none⟩)] := (HB.out.1.kept (Kept.refl (fun _ => False) w1).drew (fun e => e)).kept hm2.k (fo_not HB.out.1 HB.out.2.1)
    have t1 := hs2.cell 0
    have t3 := hc2.kr.kb.cell 3
    simp at t1 t3
    have lt1 := hs2.lt
    have lt2 := hc2.kr.kb.lt
    have tf := hc2.kr.kb.frozen 3
    have e5 : IntKind.u64.wrap (nx + 1) = nx + 1 := by rw [IntKind.wrap_u64]; have := HN.out.2.2.2.2; have := HN.out.2.2.1; omega
    obtain ⟨hc3, hs3⟩ := Cm.counted (ad' := nx + 1) hs2 hc2
    have HE := Lib.hid (show ∃ Own', Cm (w2.setCell ⟨k, 3, none⟩ (.int .u64 (nx + 1))) B s Own' (addL L T ⟨id, dl now after, nx⟩ after) T (nx + 1) ∧ Mv w (w2.setCell ⟨k, 3, none⟩ (.int .u64 (nx + 1))) Own Own' from by
      obtain ⟨hb, hc, ho, hB, m1⟩ := HB.out
      refine ⟨fun i => i = s ∨ Fo k mp hp qv bo' qb q m v' (cutL id L ++ [⟨⟨id, dl now after, nx⟩, newQ (cutL id L) T after (dl now after)⟩]) T i, ⟨k, mp, hp, qv, F', G', bo', qb, q, m, v', S', hs3, hc3, hS2, fun i => Iff.rfl, hB⟩, m1.trans ((Mv.of_kept ((Kept.refl _ w1).drew)).trans ?_)⟩
      refine ⟨(hm2.k.mono fun i _ e => (ho i).2 (.inr e)).setCell (p := ⟨k, 3, none⟩) ((ho k).2 (.inr (.inl (.inl rfl)))) _, fun i hi => ?_⟩
      rcases hi with rfl | hi
      · exact .inl ((ho i).2 (.inl rfl))
      · rcases hm2.o i hi with e | e
        · exact .inl ((ho i).2 (.inr e))
        · exact .inr e)
    clear hc2 hS2 hm2 hs2 hc3 hs3
    go_wp2_with fail
    go_ret
    exact ⟨rfl, HE.out⟩
end

/-! Calls on none. -/
theorem ctop_nil (w : World) : Calls Try.prog 21 #[.pointer none] w (Told w (.tuple #[aggI ⟨0, 0, 0⟩, .bool false])) := by
  have z := Blk.new w 44 #[.int .i64 0, .int .u64 0, .int .u64 0]
  unfold aggI
  go_enter Try.func21, Try.ntmps21
  go_wp2_with (go_at_call 29; refine (cmade_nil _).mono ?_; rintro e w' ⟨rfl, rfl⟩)
  exact bodyPost_ret (v := .tuple #[.agg #[.int .i64 0, .int .u64 0, .int .u64 0], .bool false]) (by simp [results, Try.results21, go_sem]) rfl ⟨rfl, (Below.refl _ _).alloc (Nat.le_refl _) _⟩
theorem clen_nil (w : World) : Calls Try.prog 22 #[.pointer none] w fun e w' => e = .returned (.int .i64 0) ∧ w = w' := by
  go_enter Try.func22, Try.ntmps22
  go_wp2_with (go_at_call 29; refine (cmade_nil _).mono ?_; rintro e w' ⟨rfl, rfl⟩)
  go_ret
  exact ⟨rfl, rfl⟩
theorem ccut_nil (w : World) (j : Int) : Calls Try.prog 12 #[.pointer none, .int .i64 j] w fun e w' => e = .returned (.bool false) ∧ w = w' := by
  go_enter Try.func12, Try.ntmps12
  go_wp2_with (go_at_call 29; refine (cmade_nil _).mono ?_; rintro e w' ⟨rfl, rfl⟩)
  go_ret
  exact ⟨rfl, rfl⟩
theorem cadd_nil (w : World) (j a b : Int) : Calls Try.prog 10 #[.pointer none, .int .i64 j, .int .u64 a, .int .u64 b] w fun e w' => e = .returned (.int .i64 1) ∧ w = w' := by
  go_enter Try.func10, Try.ntmps10
  go_wp2_with (go_at_call 29; refine (cmade_nil _).mono ?_; rintro e w' ⟨rfl, rfl⟩)
  go_ret
  exact ⟨rfl, rfl⟩
theorem common_nil (w : World) (t : Int) : Calls Try.prog 17 #[.pointer none, .int .u64 t] w fun e w' => e = .returned (.int .i64 1) ∧ w = w' := by
  go_enter Try.func17, Try.ntmps17
  go_wp2_with (go_at_call 29; refine (cmade_nil _).mono ?_; rintro e w' ⟨rfl, rfl⟩)
  go_ret
  exact ⟨rfl, rfl⟩
end Go.Proofs.Ytncdohbdmpfefaa
