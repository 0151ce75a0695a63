/-
  Common: a timeout becomes common; New.
-/
import Derived.Test.YtncdohbdmpfefaaCoSet
import Derived.Test.YtncdohbdmpfefaaTkDl
namespace Go.Proofs.Ytncdohbdmpfefaa
open Go.RowKit Go.Maps Go.ChangeMaps

set_option maxHeartbeats 2000000 in
theorem newQueue_any (w : World) (t : Int) : Calls Try.prog 36 #[.int .u64 t] w fun e w' =>
    e = .returned (.pointer (some ⟨w.heap.size, 0, none⟩)) ∧ Blk w' w.heap.size 84 #[.int .u64 t, .int .i64 0, .int .u64 0, .int .u64 0, .pointer none, ptr (.e w.heap.size), ptr (.e w.heap.size)] ∧ Kept (fun _ => False) w w' := by
  obtain ⟨R, hR⟩ : ∃ R, R = w.alloc (.cells #[.int .u64 t, .int .i64 0, .int .u64 0, .int .u64 0, .pointer none, .pointer none, .pointer none] 84) := ⟨_, rfl⟩
  have kR : Kept (fun _ => False) w R := by rw [hR]; exact (Kept.refl _ w).alloc _
  have bR : Blk R w.heap.size 84 #[.int .u64 t, .int .i64 0, .int .u64 0, .int .u64 0, .pointer none, .pointer none, .pointer none] := by rw [hR]; exact Blk.new _ _ _
  have d5 := bR.cell 5
  have d6 := bR.cell 6
  simp at d5 d6
  have fz := fun j => bR.frozen j
  have lR := bR.lt
  have b2 := (bR.set_ 5 (ptr (.e w.heap.size))).set_ 6 (ptr (.e w.heap.size))
  simp [ptr, adr] at b2
  have k2 := (kR.setCell_new (p := ⟨w.heap.size, 5, none⟩) (Nat.le_refl _) (ptr (.e w.heap.size))).setCell_new (p := ⟨w.heap.size, 6, none⟩) (Nat.le_refl _) (ptr (.e w.heap.size))
  simp [ptr, adr] at k2
  have HR := Lib.hid hR
  have HE := Lib.hid (And.intro b2 k2)
  clear hR kR bR b2 k2
  go_enter Try.func36, Try.ntmps36
  go_wp2_with fail
  rw [← HR.out]
  go_region
  go_wp2
  all_goals
    go_ret
    exact ⟨rfl, HE.out.1, HE.out.2.drew⟩

/-- A queue more. -/
theorem Kr.more {w w' : World} {k mp hp : Nat} {qv qv' : Value} {F G : Nd → Nd} {bo qb : Int → Nat} {L : List En} {T : List Int} {nx ad t : Int} {q : Nat} (h : Kr w k mp hp qv F G bo qb L T nx ad) (hk : Kept (fun i => i = k ∨ qv.ownBlock = some i) w w') (hq : w.heap.size ≤ q)
    (hb : Blk w' q 84 #[.int .u64 t, .int .i64 0, .int .u64 0, .int .u64 0, .pointer none, ptr (.e q), ptr (.e q)]) (hkb : Blk w' k 66 #[.pointer (some ⟨hp, 0, none⟩), qv', .map (some mp), .int .u64 ad])
    (hrow : rowQ.own w' 0 qv' (T.map qb ++ [q])) (ht : t ∉ T) (hI : CInv L (T ++ [t]) nx) :
    Kr w' k mp hp qv' (updN F (.e q) (.e q)) (updN G (.e q) (.e q)) bo (updB qb t q) L (T ++ [t]) nx ad := by
  have hF : ∀ i, Fn bo qb L T i → ¬ (i = k ∨ qv.ownBlock = some i) := fun i hi e => by
    rcases e with rfl | e
    · exact h.k_not hi
    · exact (h.row_not e).2 hi
  have eT : ∀ s ∈ T, updB qb t q s = qb s := fun s hs => updB_ne (fun e => ht (e ▸ hs))
  have neq : ∀ s ∈ T, qb s ≠ q := fun s hs e => by have := (h.qs s hs).lt; omega
  have nep : ∀ e ∈ L, bo e.x.id ≠ q := fun e he e2 => by have := (h.pl e he).lt; omega
  have eq : ∀ e ∈ L, e.q.map (updB qb t q) = e.q.map qb := fun e he => by
    cases hq : e.q with
    | none => rfl
    | some s => simp only [Option.map_some]; rw [eT s (h.inv.qin e he s hq)]
  refine ⟨hkb, ?_, fun s hs => ?_, fun e he => ?_, ?_, hI⟩
  · rw [List.map_append, List.map_congr_left eT, List.map_cons, List.map_nil, updB_same]
    exact hrow
  · rcases List.mem_append.1 hs with hs | hs
    · have := (h.qs s hs).kept hk (hF _ (.inl ⟨s, hs, rfl⟩))
      unfold encQu at this ⊢
      rw [eT s hs, updN_ne _ _ (fun e => neq s hs (by injection e)), updN_ne _ _ (fun e => neq s hs (by injection e))]
      exact this
    · simp at hs
      subst hs
      unfold encQu
      rw [updB_same, updN_same, updN_same]
      exact hb
  · have := (h.pl e he).kept hk (hF _ (.inr ⟨e, he, rfl⟩))
    unfold encPl at this ⊢
    rw [eq e he, updN_ne _ _ (by simp), updN_ne _ _ (by simp)]
    exact this
  · have hR : Rings F G bo (updB qb t q) L T := fun s hs => by rw [eT s hs]; exact h.rings s hs
    have hA : Apt bo (updB qb t q) L T := ⟨h.apt.b, fun a ha c hc e => h.apt.q a ha c hc (by rw [← eT a ha, ← eT c hc]; exact e), h.inv.ids⟩
    have := hR.more hA h.inv.qin ht (fun s hs => by rw [eT s hs, updB_same]; exact neq s hs)
    rw [updB_same] at this
    exact this
/-- What Common answers. -/
def comE (T : List Int) (t : Int) : Int := if t = 18446744073709551615 ∨ t ∈ T ∨ T.length = 32 then 90 else 0
def comT (T : List Int) (t : Int) : List Int := if t = 18446744073709551615 ∨ t ∈ T ∨ T.length = 32 then T else T ++ [t]

theorem Cm.common {w w' : World} {B s k mp hp : Nat} {qv qv' : Value} {F G : Nd → Nd} {bo qb : Int → Nat} {q0 m : Nat} {v : Value} {S : List It} {Own : Nat → Prop} {L : List En} {T : List Int} {nx t : Int} {q : Nat} (hs : Blk w s 59 #[.pointer (some ⟨k, 0, none⟩)]) (h : Cj w B k mp hp qv F G bo qb q0 m v S L T nx nx) (hS : S.Perm (xs (heads L T))) (ho : ∀ i, Own i ↔ i = s ∨ Fo k mp hp qv bo qb q0 m v L T i) (hB : B ≤ s)
    (hk : Kept (fun i => i = k ∨ qv.ownBlock = some i) w w') (hq : w.heap.size ≤ q) (hqv : ∀ i, qv'.ownBlock = some i → qv.ownBlock = some i ∨ w.heap.size ≤ i)
    (hb : Blk w' q 84 #[.int .u64 t, .int .i64 0, .int .u64 0, .int .u64 0, .pointer none, ptr (.e q), ptr (.e q)]) (hkb : Blk w' k 66 #[.pointer (some ⟨hp, 0, none⟩), qv', .map (some mp), .int .u64 nx])
    (hrow : rowQ.own w' 0 qv' (T.map qb ++ [q])) (ht : t ∉ T) (hI : CInv L (T ++ [t]) nx) :
    ∃ Own', Cm w' B s Own' L (T ++ [t]) nx ∧ Mv w w' Own Own' := by
  have hj : ∀ i, (i = k ∨ qv.ownBlock = some i) → Fr k qv bo qb L T i := fun i e => e.elim .inl fun e => .inr (.inl e)
  have hF : ∀ i, Fr k qv' bo (updB qb t q) L (T ++ [t]) i → Fr k qv bo qb L T i ∨ w.heap.size ≤ i := fun i e => by
    rcases e with e | e | ⟨s2, hs2, e⟩ | e
    · exact .inl (.inl e)
    · rcases hqv i e with e | e
      · exact .inl (.inr (.inl e))
      · exact .inr e
    · rcases List.mem_append.1 hs2 with h2 | h2
      · rw [updB_ne (fun e3 : s2 = t => ht (by rw [← e3]; exact h2))] at e
        exact .inl (.inr (.inr (.inl ⟨s2, h2, e⟩)))
      · simp at h2
        subst h2
        rw [updB_same] at e
        exact .inr (by omega)
    · exact .inl (.inr (.inr (.inr e)))
  have hmp : ¬ (mp = k ∨ qv.ownBlock = some mp) := fun e => h.mp_not (hj mp e)
  refine ⟨fun i => i = s ∨ Fo k mp hp qv' bo (updB qb t q) q0 m v L (T ++ [t]) i, ⟨k, mp, hp, qv', _, _, bo, _, q0, m, v, S, hs.kept hk (fun e => fo_not hs h (.inl (hj _ e))), ⟨h.kr.more hk hq hb hkb hrow ht hI, h.pm.kept hk hmp, h.hh.kept hk (fun i hi e => (h.a1 i hi).1 (hj i e)), fun i hi => ⟨fun e => ?_, (h.a1 i hi).2⟩, fun i e => ?_⟩, ?_, fun i => Iff.rfl, hB⟩, hk.mono (fun i _ e => (ho i).2 (.inr (.inl (hj i e)))), fun i e => ?_⟩
  · rcases hF i e with e | e
    · exact (h.a1 i hi).1 e
    · have := (h.hh.lt hi).1; omega
  · rcases e with e | e
    · rcases hF i e with e | e
      · exact h.lo i (.inl e)
      · have := h.hh.base; omega
    · exact h.lo i (.inr e)
  · rw [heads_common h.kr.inv.qin ht]; exact hS
  · rcases e with e | e | e
    · exact .inl ((ho i).2 (.inl e))
    · rcases hF i e with e | e
      · exact .inl ((ho i).2 (.inr (.inl e)))
      · exact .inr e
    · exact .inl ((ho i).2 (.inr (.inr e)))

/-- Behind the append and the store. -/
theorem Cm.stored {w w2 w3 : World} {B s k mp hp : Nat} {qv : Value} {F G : Nd → Nd} {bo qb : Int → Nat} {q0 m : Nat} {v : Value} {S : List It} {Own : Nat → Prop} {L : List En} {T : List Int} {nx t : Int} {gg : Nat} {u : Value} (hs : Blk w s 59 #[.pointer (some ⟨k, 0, none⟩)]) (h : Cj w B k mp hp qv F G bo qb q0 m v S L T nx nx) (hS : S.Perm (xs (heads L T))) (ho : ∀ i, Own i ↔ i = s ∨ Fo k mp hp qv bo qb q0 m v L T i) (hB : B ≤ s)
    (hb2 : Blk w2 w.heap.size 84 #[.int .u64 t, .int .i64 0, .int .u64 0, .int .u64 0, .pointer none, ptr (.e w.heap.size), ptr (.e w.heap.size)]) (hk2 : Kept (fun _ => False) w w2) (o : Obj)
    (O3 : rowQ.own w3 0 u (T.map qb ++ [w.heap.size])) (hu : u.ownBlock = some gg) (hg : (w2.alloc o).grownBy w3 qv.ownBlock) (hat : qv.ownBlock = some gg ∨ gg = w2.heap.size + 1) (ht : t ∉ T) (hI : CInv L (T ++ [t]) nx) :
    (w3.cell? ⟨k, 1, none⟩ = some qv ∧ w3.frozen? ⟨k, 1, none⟩ = false ∧ k < w3.heap.size ∧ w3.cell? ⟨s, 0, none⟩ = some (.pointer (some ⟨k, 0, none⟩)) ∧ s < w3.heap.size) ∧
      ∃ Own', Cm (w3.setCell ⟨k, 1, none⟩ u) B s Own' L (T ++ [t]) nx ∧ Mv w (w3.setCell ⟨k, 1, none⟩ u) Own Own' := by
  have k3 : Kept (fun i => qv.ownBlock = some i) w w3 := ((hk2.mono (fun _ _ e => e.elim)).alloc o).grown hg (fun i e _ => e)
  have nk : ¬ qv.ownBlock = some k := fun e => (h.kr.row_not e).1 rfl
  have bk3 := h.kr.kb.kept k3 nk
  have lq := hb2.lt
  have bq3 : Blk w3 w.heap.size 84 #[.int .u64 t, .int .i64 0, .int .u64 0, .int .u64 0, .pointer none, ptr (.e w.heap.size), ptr (.e w.heap.size)] :=
    (hb2.alloc o).same (hg.block _ (by simp; omega) (fun e => by have := h.kr.lt (.inr (.inl e.symm)); omega))
  have hkw := h.kr.kb.lt
  have bs3 := hs.kept k3 (fun e => fo_not hs h (.inl (.inr (.inl e))))
  refine ⟨⟨bk3.cell 1, bk3.frozen 1, bk3.lt, bs3.cell 0, bs3.lt⟩, Cm.common hs h hS ho hB ((k3.mono fun i _ e => .inr e).setCell (p := ⟨k, 1, none⟩) (.inl rfl) _) (Nat.le_refl _) (fun i e => ?_) (bq3.far (by show w.heap.size ≠ k; omega) _) (by simpa using bk3.set_ 1 u) ?_ ht hI⟩
  · have e2 : gg = i := Option.some.inj (hu.symm.trans e)
    subst e2
    rcases hat with e | e
    · exact .inl e
    · exact .inr (by have := hk2.size; omega)
  · refine RowK.own_same O3 fun i e => Below.heap_setCell _ _ _ _ (fun e3 => ?_)
    have e2 : gg = i := Option.some.inj (hu.symm.trans e)
    subst e2
    simp only at e3
    rcases hat with e | e
    · exact nk (by rw [← e3]; exact e)
    · have := hk2.size; omega

set_option maxHeartbeats 8000000 in
set_option maxRecDepth 100000 in
theorem common_any {w : World} {B s : Nat} {Own : Nat → Prop} {L : List En} {T : List Int} {nx : Int} (H : Cm w B s Own L T nx) {t : Int} (ht : U t) : Calls Try.prog 17 #[.pointer (some ⟨s, 0, none⟩), .int .u64 t] w fun e w' =>
    e = .returned (.int .i64 (comE T t)) ∧ ∃ Own', Cm w' B s Own' L (comT T t) nx ∧ Mv w w' Own Own' := by
  have hI := H.inv
  have HC := Lib.hid H
  obtain ⟨k, mp, hp, qv, F, G, bo, qb, q, m, v, S, hb, hc, hS, ho, hB⟩ := H
  have c0 := hb.cell 0
  simp at c0
  have ls := hb.lt
  have lk := hc.kr.kb.lt
  have hM := Lib.hid (cmade_yes w s k c0)
  have hLen : (T.length : Int) ≤ 32 := by have := hI.t32; omega
  by_cases h1 : t = 18446744073709551615
  · have e1 : comE T t = 90 := if_pos (.inl h1)
    have e2 : comT T t = T := if_pos (.inl h1)
    rw [e1, e2]
    clear e1 e2 hb hc hS ho hB hI
    subst h1
    go_enter Try.func17, Try.ntmps17
    go_wp2_with (go_at_call 29; refine hM.out.mono ?_; rintro e w' ⟨rfl, rfl⟩)
    go_ret
    exact ⟨rfl, Own, HC.out, Mv.of_kept (Kept.refl _ _)⟩
  · have hne : (t == 18446744073709551615) = false := by simpa using h1
    have HQ := Lib.hid (queue_any hc.kr t)
    by_cases h2 : t ∈ T
    · have e1 : comE T t = 90 := if_pos (.inr (.inl h2))
      have e2 : comT T t = T := if_pos (.inr (.inl h2))
      have e3 : quO qb T t = some (qb t) := if_pos h2
      rw [e1, e2]
      rw [e3] at HQ
      clear e1 e2 e3 hb hc hS ho hB hI h1 h2
      unfold ptrO at HQ
      go_enter Try.func17, Try.ntmps17
      go_wp2_with (first
        | (go_at_call 29; refine hM.out.mono ?_; rintro e w' ⟨rfl, rfl⟩)
        | (go_at_call 35; refine HQ.out.mono ?_; rintro e w1 ⟨rfl, hb1⟩; have HE := Lib.hid (And.intro (HC.out.below hb1) (Mv.of_below (F := Own) hb1)); clear hb1))
      go_ret
      exact ⟨rfl, Own, HE.out⟩
    · have e3 : quO qb T t = none := if_neg h2
      rw [e3] at HQ
      unfold ptrO at HQ
      have HCj := Lib.hid (And.intro hb (And.intro hc (And.intro hS (And.intro ho (And.intro hB (And.intro h2 hI))))))
      obtain ⟨A, c, hqv, -⟩ := RowK.own_shows hc.kr.row
      rw [List.length_map] at hqv
      by_cases h3 : T.length = 32
      · have e1 : comE T t = 90 := if_pos (.inr (.inr h3))
        have e2 : comT T t = T := if_pos (.inr (.inr h3))
        rw [e1, e2]
        have h3' : ((T.length : Int) == 32) = true := by simp; omega
        have HN := Lib.hid hqv
        clear e1 e2 e3 hb hc hS ho hB hI h1 h2 h3 hqv hLen
        go_enter Try.func17, Try.ntmps17
        go_wp2_with (first
          | (go_at_call 29; refine hM.out.mono ?_; rintro e w' ⟨rfl, rfl⟩)
          | (go_at_call 35; refine HQ.out.mono ?_; rintro e w1 ⟨rfl, hb1⟩; have hc1 := HCj.out.2.1.below hb1; have s1 := (HCj.out.1.same (hb1.block _ HCj.out.1.lt)).cell 0; have d1 := hc1.kr.kb.cell 1; simp at s1 d1; rw [HN.out] at d1; have lk1 := hc1.kr.kb.lt; have ls1 := (HCj.out.1.same (hb1.block _ HCj.out.1.lt)).lt; have HE := Lib.hid (And.intro (HC.out.below hb1) (Mv.of_below (F := Own) hb1)); clear hb1 hc1))
        go_ret
        exact ⟨rfl, Own, HE.out⟩
      · have e1 : comE T t = 0 := if_neg (by rintro (e | e | e); exact h1 e; exact h2 e; exact h3 e)
        have e2 : comT T t = T ++ [t] := if_neg (by rintro (e | e | e); exact h1 e; exact h2 e; exact h3 e)
        rw [e1, e2]
        have h3' : ((T.length : Int) == 32) = false := by simp; omega
        have hI2 : CInv L (T ++ [t]) nx := hI.common h2 (by have := hI.t32; omega) (by obtain ⟨u0, u1⟩ := ht; omega)
        have HN := Lib.hid (And.intro hqv (And.intro h2 hI2))
        have hT32 : T.length ≤ 32 := hI.t32
        clear e1 e2 e3 hb hc hS ho hB hI h1 h2 h3 hqv hLen hI2
        go_enter Try.func17, Try.ntmps17
        go_wp2_with (first
          | (go_at_call 29; refine hM.out.mono ?_; rintro e w' ⟨rfl, rfl⟩)
          | (go_at_call 35; refine HQ.out.mono ?_; rintro e w1 ⟨rfl, hb1⟩; have hc1 := HCj.out.2.1.below hb1; have bs1 := HCj.out.1.same (hb1.block _ HCj.out.1.lt); have s1 := bs1.cell 0; have d1 := hc1.kr.kb.cell 1; simp at s1 d1; rw [HN.out.1] at d1; have lk1 := hc1.kr.kb.lt; have ls1 := bs1.lt; have HE := Lib.hid (And.intro hc1 (And.intro bs1 (Mv.of_below (F := Own) hb1))); clear hb1 hc1 bs1))
        have HNQ := Lib.hid (show Calls Try.prog 36 #[.int .u64 t] w1.drew fun e w' =>
          e = .returned (.pointer (some ⟨w1.heap.size, 0, none⟩)) ∧ Blk w' w1.heap.size 84 #[.int .u64 t, .int .i64 0, .int .u64 0, .int .u64 0, .pointer none, ptr (.e w1.heap.size), ptr (.e w1.heap.size)] ∧ Kept (fun _ => False) w1 w' from
          (newQueue_any w1.drew t).mono fun e w' ⟨he, hb, hk⟩ => ⟨he, hb, (Kept.refl _ w1).drew.trans hk⟩)
        go_region_law ((first
          | (go_simp; go_at_call 36; refine HNQ.out.mono ?_; rintro e w2 ⟨rfl, hb2, hk2⟩
             have s2 := (HE.out.2.1.kept hk2 (fun e => e)).cell 0
             have ls2 := (HE.out.2.1.kept hk2 (fun e => e)).lt
             have kb2 := HE.out.1.kr.kb.kept hk2 (fun e => e)
             have d2 := kb2.cell 1
             simp at s2 d2
             rw [HN.out.1] at d2
             have lk2 := kb2.lt
             have HB := Lib.hid (And.intro hb2 (And.intro hk2 (RowK.own_kept HE.out.1.kr.row hk2 (fun _ _ e => e))))
             clear hb2 hk2 kb2)
          | (refine RowK.step_append (R := rowQ) (by rfl) _ _ (by rfl) 0 (.slice A T.length c) (T.map qb) [w1.heap.size] (by rfl) (RowK.own_alloc (HN.out.1 ▸ HB.out.2.2) _) ⟨w2.heap.size, 0, none⟩ 1 1 rfl (by rfl) (RowK.new_shows (R := rowQ) w2 w1.heap.size _) (by omega) (by simp; omega) (Nat.zero_le _) (w2.heap.size + 1) (by simp) ?_
             intro gg cap w3 O3 hgrow hat hlt
             obtain ⟨⟨cz, fz, lz, sz, lsz⟩, hend⟩ := Cm.stored HE.out.2.1 HE.out.1 HCj.out.2.2.1 HCj.out.2.2.2.1 HCj.out.2.2.2.2.1 HB.out.1 HB.out.2.1 _ O3 rfl (by rw [HN.out.1]; exact hgrow) (by rw [HN.out.1]; exact hat) HN.out.2.1 HN.out.2.2
             have HZ := Lib.hid hend
             rw [HN.out.1] at cz
             clear O3 hgrow hat hend)))
        all_goals
          go_wp2_with fail
          go_ret
          obtain ⟨Own', r1, r2⟩ := HZ.out
          rw [List.length_map] at r1 r2
          exact ⟨rfl, Own', r1, HE.out.2.2.trans r2⟩
end Go.Proofs.Ytncdohbdmpfefaa
