/-
  cut: the first bytes are taken out of a chain, in the chunks in which they are; Drain.
-/
import Derived.Test.YtkhkhjkacibocaaChShift
import Derived.Deep.LoopGhost
namespace Go.Proofs.Ytkhkhjkacibocaa
open Go.RowKit Go.Maps Go.ChangeMaps

section
variable {w w1 : World} {B B' c f : Nat} {t u : TypeId} {x : Lk} {L F M L' : List Lk}

theorem fc_apart (h : Cn w B t c L) (k : Cn w B' u f F) (hs : (F ++ L).Pairwise Apart) (hne : c ≠ f) : ∀ j i, Fc c L j i → ¬ Fc f F j i := by
  have h1 := own_ne h.blk h.ht k.lks
  have h2 := own_ne k.blk k.ht h.lks
  obtain ⟨_, _, s3⟩ := List.pairwise_append.1 hs
  rintro j i (rfl | ⟨y, hy, ho⟩) (e | ⟨z, hz, ho2⟩)
  · exact hne e
  · exact h1 i ⟨z, hz, ho2⟩
  · subst e; exact h2 i ⟨y, hy, ho⟩
  · exact s3 z hz y hy j i ho2 ho
theorem sep_after (hs : (F ++ L).Pairwise Apart) (hm : M.Pairwise Apart) (m : Mc w w1 (Fc c L) (Fc c M)) (hlt : ∀ k i, Fl F k i → k < w.heap.size) (hc : ∀ i, ¬ Fl F c i) : (F ++ M).Pairwise Apart := by
  obtain ⟨s1, s2, s3⟩ := List.pairwise_append.1 hs
  refine List.pairwise_append.2 ⟨s1, hm, fun a ha b hb k i ho ho2 => ?_⟩
  rcases m.o k i (.inr ⟨b, hb, ho2⟩) with (e | ⟨z, hz, ho3⟩) | e
  · subst e; exact hc i ⟨a, ha, ho⟩
  · exact s3 a ha z hz k i ho ho3
  · have := hlt k i ⟨a, ha, ho⟩; omega
theorem fc_cons {k i : Nat} (h : Fc c L k i) : Fc c (x :: L) k i := h.elim .inl fun ⟨z, hz, ho⟩ => .inr ⟨z, List.mem_cons_of_mem _ hz, ho⟩
theorem fc_append : ∀ k i, Fc c (F ++ L) k i ↔ (Fc c L k i ∨ Fl F k i) := fun k i => by
  constructor
  · rintro (e | ⟨z, hz, ho⟩)
    · exact .inl (.inl e)
    · rcases List.mem_append.1 hz with hz | hz
      · exact .inr ⟨z, hz, ho⟩
      · exact .inl (.inr ⟨z, hz, ho⟩)
  · rintro ((e | ⟨z, hz, ho⟩) | ⟨z, hz, ho⟩)
    · exact .inl e
    · exact .inr ⟨z, List.mem_append_right _ hz, ho⟩
    · exact .inr ⟨z, List.mem_append_left _ hz, ho⟩

theorem ptrO_ptr (o : Option Nat) : ∃ p, ptrO o = .pointer p := by cases o <;> exact ⟨_, rfl⟩
/-- What lies between two rounds of cut. -/
structure CutI (w : World) (B : Nat) (t : TypeId) (c n : Nat) (L F L' : List Lk) (W : World) : Prop where
  cc : Cn W B t c L'
  ff : Cn W B 27 (w.heap.size + 1) F
  r : Blk W w.heap.size 27 #[.pointer none, .pointer none, .int .i64 0]
  sep : (F ++ L').Pairwise Apart
  all : flat F ++ flat L' = flat L
  le : (flat F).length ≤ n
  m : Mc w W (Fc c L) (Fc c (F ++ L'))
  sz : w.heap.size + 1 < W.heap.size
/-- One round of it. -/
theorem CutI.next {W W1 W2 : World} {n : Nat} {y : Lk} {L3 : List Lk} (h : CutI w B t c n L F L' W) (hc : c < w.heap.size) (g1 : Cn W1 B t c L3) (g3 : (y :: L3).Pairwise Apart) (g4 : y.bs ++ flat L3 = flat L') (g5 : (flat F).length + y.bs.length ≤ n) (g6 : Mc W W1 (Fc c L') (Fc c (y :: L3)))
    (j1 : Cn W2 B 27 (w.heap.size + 1) (F ++ [y])) (j2 : Kc (Fj (w.heap.size + 1) F) W1 W2) : CutI w B t c n L (F ++ [y]) L3 W2 := by
  have hcf : c ≠ w.heap.size + 1 := by omega
  have hcF := own_ne h.cc.blk h.cc.ht h.ff.lks
  have hfL := own_ne h.ff.blk h.ff.ht h.cc.lks
  have hs1 : (F ++ (y :: L3)).Pairwise Apart := sep_after h.sep g3 g6 (fun k i hk => h.ff.lks.lt hk) hcF
  have hs2 : ((F ++ [y]) ++ L3).Pairwise Apart := by rw [List.append_assoc]; exact hs1
  have hFj : ∀ k i, Fj (w.heap.size + 1) F k i → k = w.heap.size + 1 ∨ ∃ z ∈ F, z.lb = k := fun k i e => by
    rcases e with e | e
    · exact .inl e
    · right
      unfold ltO at e
      cases hg : F.getLast? with
      | none => rw [hg] at e; cases e
      | some z => rw [hg] at e; exact ⟨z, List.mem_of_getLast? hg, Option.some.inj e⟩
  have hrF := own_ne h.r (.inl rfl) h.ff.lks
  have hrL := own_ne h.r (.inl rfl) h.cc.lks
  have hf1 : ∀ i, ¬ Fc c (y :: L3) (w.heap.size + 1) i := fun i e => by
    have := h.ff.blk.lt
    rcases g6.o _ _ e with (e | e) | e
    · exact hcf e.symm
    · exact hfL i e
    · omega
  refine ⟨g1.kc j2 fun k i hk e => ?_, j1, ?_, hs2, ?_, ?_, ?_, ?_⟩
  · rcases hFj k i e with rfl | ⟨z, hz, rfl⟩
    · exact hf1 i (fc_cons hk)
    · rcases hk with e | ⟨q, hq, ho⟩
      · exact hcF i ⟨z, hz, .inl e.symm⟩
      · exact (List.pairwise_append.1 hs1).2.2 z hz q (List.mem_cons_of_mem _ hq) _ i (.inl rfl) ho
  · refine (h.r.kc g6.k fun j e => ?_).kc j2 fun j e => ?_
    · rcases e with e | e
      · omega
      · exact hrL j e
    · rcases hFj _ _ e with e | ⟨z, hz, e⟩
      · omega
      · exact hrF 0 ⟨z, hz, .inl e.symm⟩
  · rw [flat_append, List.append_assoc, ← h.all, ← g4]; simp [flat]
  · rw [flat_append, List.length_append]; simpa [flat] using g5
  · have m1 : Mc w W1 (Fc c L) (Fc c (F ++ y :: L3)) := ⟨h.m.k.andThen g6.k fun i j hi hd => by
        rcases h.m.o i j ((fc_append i j).2 (.inl hd)) with e | e
        · exact e
        · omega, fun k i hk => by
        rcases (fc_append k i).1 hk with e | e
        · rcases g6.o k i e with e | e
          · exact h.m.o k i ((fc_append k i).2 (.inl e))
          · exact .inr (Nat.le_trans h.m.k.size e)
        · exact h.m.o k i ((fc_append k i).2 (.inr e))⟩
    rw [List.append_assoc]
    refine ⟨m1.k.andThen j2 fun i j hi hd => ?_, fun k i hk => ?_⟩
    · rcases hFj _ _ hd with e | ⟨z, hz, rfl⟩
      · omega
      · rcases h.m.o z.lb j ((fc_append _ j).2 (.inr ⟨z, hz, .inl rfl⟩)) with e | e
        · exact e
        · omega
    · exact m1.o k i hk
  · exact Nat.lt_of_lt_of_le h.sz (Nat.le_trans g6.k.size j2.size)

/-- What cut leaves. -/
def CutR (w : World) (B : Nat) (t : TypeId) (c n : Nat) (L : List Lk) (e : Ending) (w' : World) : Prop :=
  ∃ F L', e = .returned (linksV F) ∧ Cn w' B t c L' ∧ Free w' B F ∧ (F ++ L').Pairwise Apart ∧ flat F = (flat L).take n ∧ flat L' = (flat L).drop n ∧ Mc w w' (Fc c L) (Fc c (F ++ L'))

set_option maxRecDepth 100000 in
set_option maxHeartbeats 4000000 in
theorem cut_any (h : Cn w B t c L) (n : Nat) (hn : n ≤ (flat L).length) :
    Calls Try.prog 37 #[.pointer (some ⟨c, 0, none⟩), .int .i64 (n : Int)] w (CutR w B t c n L) := by
  have hle := h.le
  have hcl := h.blk.lt
  have hB := h.base
  obtain ⟨V, hV⟩ : ∃ V, V = (w.alloc (.cells #[.pointer none, .pointer none, .int .i64 0] 27)).alloc (.cells #[.pointer none, .pointer none, .int .i64 0] 27) := ⟨_, rfl⟩
  have H0 : CutI w B t c n L [] L V := by
    have k0 : Kept (fun _ => False) w V := by rw [hV]; exact ((Kept.refl _ w).alloc _).alloc _
    refine ⟨h.kept k0, ⟨?_, .inl rfl, trivial, by simp, ⟨by omega, fun x hx => by simp at hx⟩, by simp [flat]⟩, ?_, h.sep, by simp [flat], by simp [flat], Mc.of_kept k0, by rw [hV]; simp⟩
    · rw [hV]
      have := Blk.new (w.alloc (.cells #[.pointer none, .pointer none, .int .i64 0] 27)) 27 #[.pointer none, .pointer none, .int .i64 0]
      simpa [hdO, ltO, ptrO, flat] using this
    · rw [hV]; exact (Blk.new w 27 #[.pointer none, .pointer none, .int .i64 0]).alloc _
  have H0 := Lib.hid H0
  have HN := Lib.hid (And.intro hn (And.intro hle hcl))
  have HV := Lib.hid hV
  clear h hV hn hle
  have b0 : (0 : Int) ≤ (n : Int) := by omega
  go_enter Try.func37, Try.ntmps37
  go_wp2_with fail
  rw [← HV.out]
  go_loopg [] n (fun k wr => ∃ F L', k = n - (flat F).length ∧ CutI w B t c n L F L' wr)
  case atStart => exact ⟨[], L, by simp [flat], H0.out⟩
  case round =>
    obtain ⟨F, L', hk, hI⟩ := hrel
    have c0 := hI.cc.blk.cell 0
    have l0 := hI.cc.blk.lt
    have f2 := hI.ff.blk.cell 2
    have l1 := hI.ff.blk.lt
    simp at c0 f2
    obtain ⟨m, hm⟩ : ∃ m, m = (flat F).length := ⟨_, rfl⟩
    rw [← hm] at f2
    have hle := hI.le
    obtain ⟨hn, hle2, hcl⟩ := HN.out
    by_cases hlt : m < n
    · cases L' with
      | nil =>
        have := hI.all
        have : (flat F).length = (flat L).length := by rw [← this, flat_nil, List.append_nil]
        omega
      | cons x L2 =>
        have c0' : wr.cell? ⟨c, 0, none⟩ = some (.pointer (some ⟨x.lb, 0, none⟩)) := c0
        have HSh := Lib.hid (shift_any hI.cc (n - m) (by omega) (by omega))
        have e1 : IntKind.i64.wrap ((n : Int) - (m : Int)) = ((n - m : Nat) : Int) := by rw [IntWalk.i64_in _ (by omega)]; omega
        have b1 : (m : Int) < (n : Int) := by omega
        have HI := Lib.hid (And.intro hI (And.intro hk (And.intro hm hlt)))
        clear c0 hI hk hm hlt hle hn hle2
        go_wp2_with fail
        refine HSh.out.mono ?_
        rintro e w1 ⟨y, L3, rfl, g1, g2, g3, g4, g5, g6⟩
        obtain ⟨hI, hk, hm, hlt⟩ := HI.out
        have hcf : w.heap.size + 1 ≠ c := by omega
        have hf1 := hI.ff.kc g6.k (fc_apart hI.ff hI.cc (by
          refine List.pairwise_append.2 ?_
          obtain ⟨s1, s2, s3⟩ := List.pairwise_append.1 hI.sep
          exact ⟨s2, s1, fun a ha b hb => (s3 b hb a ha).symm⟩) hcf)
        have hall := hI.all
        have hy : (flat F).length + y.bs.length ≤ n := by rw [g5]; omega
        have hs1 : (F ++ [y]).Pairwise Apart := by
          have := sep_after hI.sep g3 g6 (fun k i hk => hI.ff.lks.lt hk) (own_ne hI.cc.blk hI.cc.ht hI.ff.lks)
          rw [show F ++ y :: L3 = (F ++ [y]) ++ L3 by simp] at this
          exact (List.pairwise_append.1 this).1
        have hlen : (flat F).length + (flat [y]).length ≤ 1048576 := by
          obtain ⟨hn, hle2, hcl⟩ := HN.out
          simp [flat] at hy ⊢; omega
        have HJ := Lib.hid (join_any hf1 g2 hs1 hlen)
        have HG := Lib.hid (And.intro g1 (And.intro g3 (And.intro g4 (And.intro g5 (And.intro g6 hy)))))
        clear hI hk hm hlt g1 g2 g3 g4 g5 g6 hf1 hs1 hlen hall hy
        go_wp2_with fail
        refine HJ.out.mono ?_
        rintro e w2 ⟨rfl, j1, j2⟩
        obtain ⟨hI, hk, hm, hlt⟩ := HI.out
        obtain ⟨g1, g3, g4, g5, g6, hy⟩ := HG.out
        have HE := Lib.hid (hI.next hcl g1 g3 g4 hy g6 j1 j2)
        have HM := Lib.hid (show (flat (F ++ [y])).length = m + y.bs.length ∧ 0 < y.bs.length from by
          rw [flat_append, List.length_append, ← hm]
          refine ⟨by simp [flat], ?_⟩
          rw [g5]
          have := hI.cc.lks.1.pos
          omega)
        clear hI hk hm hlt g1 g3 g4 g5 g6 j1 j2 hy
        go_wp2_with fail
        go_roundg (n - (flat (F ++ [y])).length)
        case rel => exact ⟨F ++ [y], L3, rfl, HE.out⟩
        case measure => have := HM.out; have := HI.out; omega
    · have b1 : (n : Int) ≤ (m : Int) := by omega
      have b2 : decide ((m : Int) < (n : Int)) = false := by simp; omega
      have HI := Lib.hid (And.intro hI (And.intro hm hlt))
      have f0 := hI.ff.blk.cell 0
      have f1 := hI.ff.blk.cell 1
      have r0 := hI.r.cell 0
      have r1 := hI.r.cell 1
      have r2 := hI.r.cell 2
      have fr0 := hI.r.frozen 0
      have fr1 := hI.r.frozen 1
      have fr2 := hI.r.frozen 2
      have lr := hI.r.lt
      simp at f0 f1 r0 r1 r2
      obtain ⟨v0, hv0⟩ := ptrO_ptr (hdO F)
      obtain ⟨v1, hv1⟩ := ptrO_ptr (ltO F)
      rw [hv0] at f0
      rw [hv1] at f1
      have HVV := Lib.hid (And.intro hv0 hv1)
      clear hI hm hlt hk hle hn hle2 hv0 hv1
      go_wp2_with fail
      refine bodyPost_ret (v := .agg #[.pointer v0, .pointer v1, .int .i64 (m : Int)]) (by simp [results, Try.results37, go_sem, r0, r1, r2]) rfl ?_
      obtain ⟨hI, hm, hlt⟩ := HI.out
      obtain ⟨hv0, hv1⟩ := HVV.out
      have hr := hI.r
      have x1 := hr.set_ 0 (.pointer v0)
      have x2 := x1.set_ 1 (.pointer v1)
      have kk := (((Kc.refl (fun k _ => k = w.heap.size) wr).setCell (p := ⟨w.heap.size, 0, none⟩) hr rfl (fun _ => rfl) (.pointer v0)).setCell (p := ⟨w.heap.size, 1, none⟩) x1 rfl (fun _ => rfl) (.pointer v1)).setCell (p := ⟨w.heap.size, 2, none⟩) x2 rfl (fun _ => rfl) (.int .i64 (m : Int))
      have hle := hI.le
      have hmn : (flat F).length = n := by omega
      have hrF := own_ne hr (.inl rfl) hI.ff.lks
      have hrL := own_ne hr (.inl rfl) hI.cc.lks
      refine ⟨F, L', ?_, hI.cc.kc kk (fun k i hk e => ?_), ⟨hI.ff.lks.kc kk fun k i hk e => ?_, hI.ff.sep, hI.ff.lo.2⟩, hI.sep, ?_, ?_, ?_⟩
      · unfold linksV; rw [hv0, hv1, ← hm]
      · subst e
        rcases hk with e | hk
        · omega
        · exact hrL i hk
      · subst e; exact hrF i hk
      · rw [← hI.all, List.take_left' hmn]
      · rw [← hI.all, List.drop_left' hmn]
      · exact ⟨hI.m.k.andThen kk fun i j hi e => by omega, hI.m.o⟩

set_option maxHeartbeats 1000000 in
theorem drain_any (h : Cn w B 29 c L) (n : Int) (hn : -9223372036854775808 ≤ n ∧ n ≤ 9223372036854775807) : Calls Try.prog 22 #[.pointer (some ⟨c, 0, none⟩), .int .i64 n] w fun e w' =>
    e = .returned (.int .i64 (((flat L).take n.toNat).length : Int)) ∧ ∃ L', Cn w' B 29 c L' ∧ flat L' = (flat L).drop n.toNat ∧ Mc w w' (Fc c L) (Fc c L') := by
  have HC := Lib.hid (count_any h 0 n (by omega) hn)
  obtain ⟨m, hm⟩ : ∃ m, m = cntZ (flat L).length 0 n := ⟨_, rfl⟩
  have hm' : m = min n.toNat (flat L).length := by rw [hm]; unfold cntZ; rw [if_neg (by omega)]; omega
  rw [← hm] at HC
  have hl : ((flat L).take n.toNat).length = m := by rw [List.length_take, hm']
  rw [hl]
  have l1 := h.blk.lt
  by_cases h0 : 0 < m
  · have HK := Lib.hid (cut_any h m (by omega))
    have hd : (flat L).drop n.toNat = (flat L).drop m := by
      by_cases e : n.toNat ≤ (flat L).length
      · rw [show m = n.toNat by omega]
      · rw [List.drop_of_length_le (by omega), List.drop_of_length_le (by omega)]
    have HD := Lib.hid hd
    have b1 : (0 : Int) < (m : Int) := by omega
    have b2 : decide ((0 : Int) < (m : Int)) = true := by simpa using h0
    clear h hm hm' hl hd h0
    go_enter Try.func22, Try.ntmps22
    go_wp2_with (go_at_call 42; refine HC.out.mono ?_; rintro e w' ⟨rfl, rfl⟩)
    refine HK.out.mono ?_
    rintro e w2 ⟨F, L', rfl, g1, g2, g3, g4, g5, g6⟩
    have HE := Lib.hid (show ∃ L', Cn w2 B 29 c L' ∧ flat L' = (flat L).drop n.toNat ∧ Mc w w2 (Fc c L) (Fc c L') from ⟨L', g1, by rw [g5, HD.out], g6.k, fun k i e => g6.o k i ((fc_append k i).2 (.inl e))⟩)
    clear g1 g2 g3 g4 g5 g6
    go_wp2_with fail
    go_ret
    exact ⟨rfl, HE.out⟩
  · have h1 : m = 0 := by omega
    have hd : (flat L).drop n.toNat = flat L := by
      by_cases e : n.toNat = 0
      · rw [e]; rfl
      · have : (flat L).length = 0 := by omega
        rw [List.eq_nil_of_length_eq_zero this]; simp
    have HE := Lib.hid (show ∃ L', Cn w B 29 c L' ∧ flat L' = (flat L).drop n.toNat ∧ Mc w w (Fc c L) (Fc c L') from ⟨L, h, hd.symm, Mc.refl _ _⟩)
    have b2 : decide ((0 : Int) < (m : Int)) = false := by simp; omega
    rw [h1] at b2 HC ⊢
    clear h hm hm' hl hd h0 h1
    go_enter Try.func22, Try.ntmps22
    go_wp2_with (go_at_call 42; refine HC.out.mono ?_; rintro e w' ⟨rfl, rfl⟩)
    go_ret
    exact ⟨rfl, HE.out⟩
end
end Go.Proofs.Ytkhkhjkacibocaa
