/-
  shift: the first chunk is taken out of a chain, or the first bytes of it.
-/
import Derived.Test.YtkhkhjkacibocaaChLow
namespace Go.Proofs.Ytkhkhjkacibocaa
open Go.RowKit Go.Maps Go.ChangeMaps

section
variable {w : World} {B c : Nat} {t : TypeId} {x : Lk} {L : List Lk}

/-- What shift leaves. -/
def Shifted (w : World) (B : Nat) (t : TypeId) (c n : Nat) (x : Lk) (L : List Lk) (e : Ending) (w' : World) : Prop :=
  ∃ y L', e = .returned (linksV [y]) ∧ Cn w' B t c L' ∧ Free w' B [y] ∧ (y :: L').Pairwise Apart ∧ y.bs ++ flat L' = flat (x :: L) ∧ y.bs.length = min n x.bs.length ∧ Mc w w' (Fc c (x :: L)) (Fc c (y :: L'))

theorem linksV_one (y : Lk) : linksV [y] = .agg #[.pointer (some ⟨y.lb, 0, none⟩), .pointer (some ⟨y.lb, 0, none⟩), .int .i64 (y.bs.length : Int)] := by
  simp [linksV, hdO, ltO, ptrO, flat]

/-- The chunk in two: what becomes of memory. -/
theorem Cn.split {w' : World} {n q : Nat} (h : Cn w B t c (x :: L)) (h0 : 0 < n) (hn : n < x.bs.length) (hq : w.heap.size ≤ q) (k : Kc (fun k _ => k = c ∨ k = x.lb) w w')
    (b1 : Blk w' c t #[ptrO (some x.lb), ptrO (ltO (x :: L)), .int .i64 (((flat (x :: L)).length - n : Nat) : Int)])
    (b2 : Blk w' x.lb 72 #[.slice (some ⟨x.g, x.off + n, none⟩) (x.bs.length - n) (x.cap - n), ptrO (hdO L)])
    (b3 : Blk w' q 72 #[.slice (some ⟨x.g, x.off, none⟩) n n, .pointer none]) : Shifted w B t c n x L (.returned (.agg #[.pointer (some ⟨q, 0, none⟩), .pointer (some ⟨q, 0, none⟩), .int .i64 (n : Int)])) w' := by
  have hx := h.lks.1
  have hfit := hx.fit
  have hbig := hx.big
  obtain ⟨s1, s2⟩ := List.pairwise_cons.1 h.sep
  obtain ⟨cs, d1, d2, d3⟩ := hx.dat
  have hcg : c ≠ x.g := blk_ne h.blk d1 (by rcases h.ht with rfl | rfl <;> decide)
  have d1' : Blk w' x.g 5 cs := d1.kc k fun j e => by
    rcases e with e | e
    · exact hcg e.symm
    · exact hx.ne e.symm
  have hxl := hx.blk.lt
  have hgl := d1.lt
  have hlt : (x.bs.take n).length = n := by rw [List.length_take]; omega
  have hld : (x.bs.drop n).length = x.bs.length - n := List.length_drop
  have hcL := own_ne h.blk h.ht h.lks
  have hL : Lks w' L := h.lks.2.kc k fun j i ⟨z, hz, ho⟩ e => by
    rcases e with e | e
    · subst e; exact hcL i ⟨z, List.mem_cons_of_mem _ hz, ho⟩
    · subst e; exact s1 z hz _ i (.inl rfl) ho
  have hltL : ltO (⟨x.lb, x.g, x.off + n, x.cap - n, x.bs.drop n⟩ :: L) = ltO (x :: L) := by
    unfold ltO
    cases L with
    | nil => rfl
    | cons z L => simp [List.getLast?_cons]
  have hfl : (flat (⟨x.lb, x.g, x.off + n, x.cap - n, x.bs.drop n⟩ :: L)).length = (flat (x :: L)).length - n := by
    rw [flat_cons, flat_cons, List.length_append, List.length_append, hld]; omega
  have hle := h.le
  refine ⟨⟨q, x.g, x.off, n, x.bs.take n⟩, ⟨x.lb, x.g, x.off + n, x.cap - n, x.bs.drop n⟩ :: L, ?_, ⟨?_, h.ht, ⟨⟨?_, ?_, ?_, ?_, ?_⟩, hL⟩, ?_, ?_, ?_⟩, ⟨⟨⟨?_, ?_, ?_, ?_, ?_⟩, trivial⟩, by simp, ?_⟩, ?_, ?_, ?_, ⟨?_, ?_⟩⟩
  · rw [linksV_one]; simp only [hlt]
  · rw [hltL, hfl]; exact b1
  · simp only [hld]; exact b2
  · simp only [hld]; omega
  · simp only [hld]; omega
  · show x.cap - n ≤ _; omega
  · exact ⟨cs, d1', by show x.off + n + (x.cap - n) ≤ _; omega, fun i z hz => by
      simp only at hz ⊢
      rw [List.getElem?_drop] at hz
      rw [Nat.add_assoc]; exact d3 _ z hz⟩
  · refine List.pairwise_cons.2 ⟨fun z hz j i ho => s1 z hz j i ?_, s2⟩
    rcases ho with e | ⟨e1, e2, e3⟩
    · exact .inl e
    · simp only at e1 e2 e3; exact .inr ⟨e1, by omega, by omega⟩
  · refine ⟨h.lo.1, fun z hz => ?_⟩
    rcases List.mem_cons.1 hz with rfl | hz
    · exact h.lo.2 x (by simp)
    · exact h.lo.2 z (List.mem_cons_of_mem _ hz)
  · rw [hfl]; omega
  · simp only [hlt]; exact b3
  · simp only [hlt]; exact h0
  · simp only [hlt]; exact Nat.le_refl _
  · show n ≤ _; omega
  · exact ⟨cs, d1', by show x.off + n ≤ _; omega, fun i z hz => by
      simp only at hz ⊢
      rw [List.getElem?_take] at hz
      split at hz
      · exact d3 _ z hz
      · cases hz⟩
  · intro z hz
    simp at hz; subst hz
    exact ⟨Nat.le_trans h.base hq, (h.lo.2 x (by simp)).2⟩
  · refine List.pairwise_cons.2 ⟨fun z hz j i ho ho2 => ?_, List.pairwise_cons.2 ⟨fun z hz j i ho => s1 z hz j i ?_, s2⟩⟩
    · have hold : ∀ z ∈ x :: L, ∀ i, ¬ Own z q i := fun z hz i ho => by have := h.lks.lt ⟨z, hz, ho⟩; omega
      rcases ho with e | ⟨e1, e2, e3⟩
      · simp only at e; subst e
        rcases List.mem_cons.1 hz with rfl | hz
        · rcases ho2 with e | ⟨e, _, _⟩ <;> simp only at e <;> omega
        · exact hold z (List.mem_cons_of_mem _ hz) i ho2
      · simp only at e1 e2 e3; subst e1
        rcases List.mem_cons.1 hz with rfl | hz
        · rcases ho2 with e | ⟨_, e4, _⟩
          · simp only at e; exact hx.ne e.symm
          · simp only at e4; omega
        · exact s1 z hz _ i (.inr ⟨rfl, e2, by omega⟩) ho2
    · rcases ho with e | ⟨e1, e2, e3⟩
      · exact .inl e
      · simp only at e1 e2 e3; exact .inr ⟨e1, by omega, by omega⟩
  · rw [flat_cons, flat_cons, ← List.append_assoc]
    simp only [List.take_append_drop]
  · simp only [hlt]; omega
  · exact k.mono fun i j _ e => by
      rcases e with e | e
      · exact .inl e
      · exact .inr ⟨x, by simp, .inl e⟩
  · intro j i hf
    rcases hf with e | ⟨z, hz, ho⟩
    · exact .inl (.inl e)
    · rcases List.mem_cons.1 hz with rfl | hz
      · rcases ho with e | ⟨e1, e2, e3⟩
        · simp only at e; right; omega
        · simp only at e1 e2 e3; exact .inl (.inr ⟨x, by simp, .inr ⟨e1, e2, by omega⟩⟩)
      · rcases List.mem_cons.1 hz with rfl | hz
        · rcases ho with e | ⟨e1, e2, e3⟩
          · exact .inl (.inr ⟨x, by simp, .inl e⟩)
          · simp only at e1 e2 e3; exact .inl (.inr ⟨x, by simp, .inr ⟨e1, by omega, by omega⟩⟩)
        · exact .inl (.inr ⟨z, List.mem_cons_of_mem _ hz, ho⟩)

/-- The chunk as it is: what becomes of memory. -/
theorem Cn.first {w' : World} {n : Nat} (h : Cn w B t c (x :: L)) (hn : x.bs.length ≤ n) (k : Kc (fun k _ => k = c ∨ k = x.lb) w w')
    (b1 : Blk w' c t #[ptrO (hdO L), ptrO (ltO L), .int .i64 ((flat L).length : Int)])
    (b2 : Blk w' x.lb 72 #[.slice (some ⟨x.g, x.off, none⟩) x.bs.length x.cap, .pointer none]) : Shifted w B t c n x L (.returned (.agg #[.pointer (some ⟨x.lb, 0, none⟩), .pointer (some ⟨x.lb, 0, none⟩), .int .i64 (x.bs.length : Int)])) w' := by
  have hx := h.lks.1
  obtain ⟨s1, s2⟩ := List.pairwise_cons.1 h.sep
  obtain ⟨cs, d1, d2, d3⟩ := hx.dat
  have hcg : c ≠ x.g := blk_ne h.blk d1 (by rcases h.ht with rfl | rfl <;> decide)
  have d1' : Blk w' x.g 5 cs := d1.kc k fun j e => by
    rcases e with e | e
    · exact hcg e.symm
    · exact hx.ne e.symm
  have hcL := own_ne h.blk h.ht h.lks
  have hL : Lks w' L := h.lks.2.kc k fun j i ⟨z, hz, ho⟩ e => by
    rcases e with e | e
    · subst e; exact hcL i ⟨z, List.mem_cons_of_mem _ hz, ho⟩
    · subst e; exact s1 z hz _ i (.inl rfl) ho
  have hle := h.le
  rw [flat_cons, List.length_append] at hle
  refine ⟨x, L, by rw [linksV_one], ⟨b1, h.ht, hL, s2, ⟨h.lo.1, fun z hz => h.lo.2 z (List.mem_cons_of_mem _ hz)⟩, by omega⟩, ⟨⟨⟨b2, hx.pos, hx.fit, hx.big, cs, d1', d2, d3⟩, trivial⟩, by simp, fun z hz => ?_⟩, h.sep, (flat_cons _ _).symm, by omega, ⟨?_, fun _ _ e => .inl e⟩⟩
  · simp at hz; subst hz; exact h.lo.2 z (by simp)
  · exact k.mono fun i j _ e => by
      rcases e with e | e
      · exact .inl e
      · exact .inr ⟨x, by simp, .inl e⟩

set_option maxRecDepth 100000 in
set_option maxHeartbeats 4000000 in
theorem shift_part (h : Cn w B t c (x :: L)) (n : Nat) (h0 : 0 < n) (hn : n < x.bs.length) :
    Calls Try.prog 48 #[.pointer (some ⟨c, 0, none⟩), .int .i64 (n : Int)] w (Shifted w B t c n x L) := by
  have hx := h.lks.1
  have hle := h.le
  have hfit := hx.fit
  have hbig := hx.big
  have hb := h.blk
  have hxb := hx.blk
  obtain ⟨q, hq⟩ : ∃ q, q = x.lb := ⟨_, rfl⟩
  obtain ⟨g, hg⟩ : ∃ g, g = x.g := ⟨_, rfl⟩
  obtain ⟨o, ho⟩ : ∃ o, o = x.off := ⟨_, rfl⟩
  obtain ⟨cp, hcp⟩ : ∃ cp, cp = x.cap := ⟨_, rfl⟩
  obtain ⟨ln, hln⟩ : ∃ ln, ln = x.bs.length := ⟨_, rfl⟩
  obtain ⟨m, hm⟩ : ∃ m, m = (flat (x :: L)).length := ⟨_, rfl⟩
  have hlm : ln ≤ m := by rw [hm, hln, flat_cons, List.length_append]; omega
  have hhd : hdO (x :: L) = some q := by rw [hq]; rfl
  rw [hhd, ← hm] at hb
  rw [← hq, ← hg, ← ho, ← hcp, ← hln] at hxb
  rw [← hln] at hn hfit
  rw [← hcp] at hfit hbig
  rw [← hm] at hle
  have hqc : q ≠ c := fun e => blk_ne hb hxb (by rcases h.ht with rfl | rfl <;> decide) e.symm
  have H := Lib.hid (And.intro h (And.intro hq (And.intro hg (And.intro ho (And.intro hcp (And.intro hln hm))))))
  have c0 : w.cell? ⟨c, 0, none⟩ = some (.pointer (some ⟨q, 0, none⟩)) := hb.cell 0
  have l1 := hb.lt
  have g0 : w.cell? ⟨q, 0, none⟩ = some (.slice (some ⟨g, o, none⟩) ln cp) := hxb.cell 0
  have l2 := hxb.lt
  have b0 : (0 : Int) ≤ (n : Int) := by omega
  have b1 : (n : Int) < (ln : Int) := by omega
  have b2 : (n : Int) ≤ (ln : Int) := by omega
  have b3 : (ln : Int) ≤ (cp : Int) := by omega
  have b4 : (n : Int) ≤ (cp : Int) := by omega
  have b5 : ¬ cp = n := by omega
  have b6 : n ≤ cp := by omega
  have b7 : n ≤ ln := by omega
  have HB := Lib.hid (And.intro hb (And.intro hxb (And.intro h0 hn)))
  have e1 : IntKind.i64.wrap ((m : Int) - (n : Int)) = ((m - n : Nat) : Int) := by rw [IntWalk.i64_in _ (by omega)]; omega
  clear h hx hb hxb hhd hq hg ho hcp hln hm h0 hn hfit
  go_enter Try.func48, Try.ntmps48
  go_wp2_with fail
  refine (single_any _ _ n _ n rfl).mono ?_
  rintro e w2 ⟨rfl, k1, k2, k3⟩
  have hs2 := (Blk.new w 27 #[.pointer none, .pointer none, .int .i64 0]).kept k2 (fun e => e)
  have k2 := ((Kept.refl (fun _ => False) w).alloc _).trans k2
  obtain ⟨hb, hxb, h0, hn⟩ := HB.out
  have hb2 := hb.kept k2 (fun e => e)
  have hxb2 := hxb.kept k2 (fun e => e)
  simp only [World.size_alloc] at k1 k3 ⊢
  obtain ⟨s, hs⟩ : ∃ s, s = w.heap.size := ⟨_, rfl⟩
  rw [← hs] at k1 k3 l1 l2 hs2
  rw [← hs]
  have s0 : w2.cell? ⟨s, 0, none⟩ = some (.pointer none) := hs2.cell 0
  have s1 : w2.cell? ⟨s, 1, none⟩ = some (.pointer none) := hs2.cell 1
  have s2 : w2.cell? ⟨s, 2, none⟩ = some (.int .i64 0) := hs2.cell 2
  have fs0 := hs2.frozen 0
  have fs1 := hs2.frozen 1
  have fs2 := hs2.frozen 2
  have m0 : w2.cell? ⟨c, 0, none⟩ = some (.pointer (some ⟨q, 0, none⟩)) := hb2.cell 0
  have m2 : w2.cell? ⟨c, 2, none⟩ = some (.int .i64 (m : Int)) := hb2.cell 2
  have mq : w2.cell? ⟨q, 0, none⟩ = some (.slice (some ⟨g, o, none⟩) ln cp) := hxb2.cell 0
  have fq := hxb2.frozen 0
  have fc := hb2.frozen 2
  have l3 := hb2.lt
  have l4 := hxb2.lt
  have l5 := k1.lt
  have b8 : s < w2.heap.size := by omega
  have b9 : s ≠ c := by omega
  have b10 : s ≠ q := by omega
  have k4 := k2.size
  have HK := Lib.hid (And.intro k1 (And.intro k2 (And.intro hb2 (And.intro hxb2 (And.intro k3 hs2)))))
  have HS := Lib.hid hs
  clear hb hxb h0 hn k1 k2 hb2 hxb2 c0 g0 hs k3 k4 hs2
  go_wp2_with fail
  refine bodyPost_ret (v := .agg #[.pointer (some ⟨s + 1 + 1, 0, none⟩), .pointer (some ⟨s + 1 + 1, 0, none⟩), .int .i64 (n : Int)]) (by simp [results, Try.results48, go_sem, s0, s1, s2, b8]) rfl ?_
  obtain ⟨h, hq, hg, ho, hcp, hln, hm⟩ := H.out
  obtain ⟨hb, hxb, h0, hn⟩ := HB.out
  obtain ⟨k1, k2, hb2, hxb2, k3, hs2⟩ := HK.out
  have hs := HS.out
  have hsc : c ≠ s := b9.symm
  have hsq : q ≠ s := b10.symm
  have hqc' : c ≠ q := hqc.symm
  have r1 : s + 1 + 1 ≠ q := by omega
  have r2 : s + 1 + 1 ≠ c := by omega
  have r3 : s + 1 + 1 ≠ s := by omega
  have x1 := hb2.far (p := ⟨q, 0, none⟩) hqc' (.slice (some ⟨g, o + n, none⟩) (ln - n) (cp - n))
  have x2 := x1.set_ 2 (.int .i64 ((m - n : Nat) : Int))
  have x3 := (((x2.far (p := ⟨s, 0, none⟩) hsc (.pointer (some ⟨s + 1 + 1, 0, none⟩))).far (p := ⟨s, 1, none⟩) hsc (.pointer (some ⟨s + 1 + 1, 0, none⟩))).far (p := ⟨s, 2, none⟩) hsc (.int .i64 (n : Int))).alloc (.cells #[.pointer (some ⟨s + 1 + 1, 0, none⟩), .pointer (some ⟨s + 1 + 1, 0, none⟩), .int .i64 (n : Int)] 27)
  have y1 := hxb2.set_ 0 (.slice (some ⟨g, o + n, none⟩) (ln - n) (cp - n))
  have y3 := ((((y1.far (p := ⟨c, 2, none⟩) hqc (.int .i64 ((m - n : Nat) : Int))).far (p := ⟨s, 0, none⟩) hsq (.pointer (some ⟨s + 1 + 1, 0, none⟩))).far (p := ⟨s, 1, none⟩) hsq (.pointer (some ⟨s + 1 + 1, 0, none⟩))).far (p := ⟨s, 2, none⟩) hsq (.int .i64 (n : Int))).alloc (.cells #[.pointer (some ⟨s + 1 + 1, 0, none⟩), .pointer (some ⟨s + 1 + 1, 0, none⟩), .int .i64 (n : Int)] 27)
  have z3 := (((((k1.far (p := ⟨q, 0, none⟩) r1 (.slice (some ⟨g, o + n, none⟩) (ln - n) (cp - n))).far (p := ⟨c, 2, none⟩) r2 (.int .i64 ((m - n : Nat) : Int))).far (p := ⟨s, 0, none⟩) r3 (.pointer (some ⟨s + 1 + 1, 0, none⟩))).far (p := ⟨s, 1, none⟩) r3 (.pointer (some ⟨s + 1 + 1, 0, none⟩))).far (p := ⟨s, 2, none⟩) r3 (.int .i64 (n : Int))).alloc (.cells #[.pointer (some ⟨s + 1 + 1, 0, none⟩), .pointer (some ⟨s + 1 + 1, 0, none⟩), .int .i64 (n : Int)] 27)
  have u1 := ((hs2.far (p := ⟨q, 0, none⟩) b10 (.slice (some ⟨g, o + n, none⟩) (ln - n) (cp - n))).far (p := ⟨c, 2, none⟩) b9 (.int .i64 ((m - n : Nat) : Int)))
  have u2 := u1.set_ 0 (.pointer (some ⟨s + 1 + 1, 0, none⟩))
  have u3 := u2.set_ 1 (.pointer (some ⟨s + 1 + 1, 0, none⟩))
  have kk := ((((((Kc.of_kept (D := fun k _ => k = c ∨ k = q) k2).setCell (p := ⟨q, 0, none⟩) hxb2 rfl (fun _ => .inr rfl) (.slice (some ⟨g, o + n, none⟩) (ln - n) (cp - n))).setCell (p := ⟨c, 2, none⟩) x1 rfl (fun _ => .inl rfl) (.int .i64 ((m - n : Nat) : Int))).setCell (p := ⟨s, 0, none⟩) u1 rfl (fun e => by simp only at e; omega) (.pointer (some ⟨s + 1 + 1, 0, none⟩))).setCell (p := ⟨s, 1, none⟩) u2 rfl (fun e => by simp only at e; omega) (.pointer (some ⟨s + 1 + 1, 0, none⟩))).setCell (p := ⟨s, 2, none⟩) u3 rfl (fun e => by simp only at e; omega) (.int .i64 (n : Int))).alloc (.cells #[.pointer (some ⟨s + 1 + 1, 0, none⟩), .pointer (some ⟨s + 1 + 1, 0, none⟩), .int .i64 (n : Int)] 27)
  refine h.split h0 (by rw [← hln]; exact hn) (q := s + 1 + 1) (by omega) (by rw [← hq]; exact kk) ?_ ?_ ?_
  · rw [← hq, ← hm]; simpa using x3
  · rw [← hq, ← hg, ← ho, ← hcp, ← hln]; simpa using y3
  · rw [← hg, ← ho]; exact z3

set_option maxRecDepth 100000 in
set_option maxHeartbeats 4000000 in
theorem shift_all (h : Cn w B t c (x :: L)) (n : Nat) (hn : x.bs.length ≤ n) (hn2 : n ≤ 1048576) :
    Calls Try.prog 48 #[.pointer (some ⟨c, 0, none⟩), .int .i64 (n : Int)] w (Shifted w B t c n x L) := by
  have hx := h.lks.1
  have hle := h.le
  have hfit := hx.fit
  have hbig := hx.big
  have hb := h.blk
  have hxb := hx.blk
  obtain ⟨q, hq⟩ : ∃ q, q = x.lb := ⟨_, rfl⟩
  obtain ⟨g, hg⟩ : ∃ g, g = x.g := ⟨_, rfl⟩
  obtain ⟨o, ho⟩ : ∃ o, o = x.off := ⟨_, rfl⟩
  obtain ⟨cp, hcp⟩ : ∃ cp, cp = x.cap := ⟨_, rfl⟩
  obtain ⟨ln, hln⟩ : ∃ ln, ln = x.bs.length := ⟨_, rfl⟩
  obtain ⟨m, hm⟩ : ∃ m, m = (flat (x :: L)).length := ⟨_, rfl⟩
  obtain ⟨r, hr⟩ : ∃ r, r = (flat L).length := ⟨_, rfl⟩
  have hlm : m = ln + r := by rw [hm, hln, hr, flat_cons, List.length_append]
  have hhd : hdO (x :: L) = some q := by rw [hq]; rfl
  rw [hhd, ← hm] at hb
  rw [← hq, ← hg, ← ho, ← hcp, ← hln] at hxb
  rw [← hln] at hn hfit
  rw [← hcp] at hfit hbig
  rw [← hm] at hle
  have hqc : q ≠ c := fun e => blk_ne hb hxb (by rcases h.ht with rfl | rfl <;> decide) e.symm
  have H := Lib.hid (And.intro h (And.intro hq (And.intro hg (And.intro ho (And.intro hcp (And.intro hln (And.intro hm (And.intro hr hn))))))))
  have c0 : w.cell? ⟨c, 0, none⟩ = some (.pointer (some ⟨q, 0, none⟩)) := hb.cell 0
  have c2 : w.cell? ⟨c, 2, none⟩ = some (.int .i64 (m : Int)) := hb.cell 2
  have c1 : w.cell? ⟨c, 1, none⟩ = some (ptrO (ltO (x :: L))) := hb.cell 1
  have l1 := hb.lt
  have f0 := hb.frozen 0
  have f1 := hb.frozen 1
  have f2 := hb.frozen 2
  have g0 : w.cell? ⟨q, 0, none⟩ = some (.slice (some ⟨g, o, none⟩) ln cp) := hxb.cell 0
  have fq := hxb.frozen 1
  have l2 := hxb.lt
  have b1 : ¬ (n : Int) < (ln : Int) := by omega
  have b2 : decide ((n : Int) < (ln : Int)) = false := by simp; omega
  have HB := Lib.hid (And.intro hb hxb)
  have e1 : IntKind.i64.wrap ((m : Int) - (ln : Int)) = (r : Int) := by rw [IntWalk.i64_in _ (by omega)]; omega
  have hmr := Lib.hid hlm
  by_cases hL : L = []
  · subst hL
    have g1 : w.cell? ⟨q, 1, none⟩ = some (.pointer none) := hxb.cell 1
    clear h hx hb hxb hhd hq hg ho hcp hln hm hn hfit hr hlm
    go_enter Try.func48, Try.ntmps48
    go_wp2_with fail
    go_region
    go_wp2_with fail
    refine bodyPost_ret (v := .agg #[.pointer (some ⟨q, 0, none⟩), .pointer (some ⟨q, 0, none⟩), .int .i64 (ln : Int)]) (by simp [results, Try.results48, go_sem]) rfl ?_
    obtain ⟨h, hq, hg, ho, hcp, hln, hm, hr, hn⟩ := H.out
    obtain ⟨hb, hxb⟩ := HB.out
    have hqc' : c ≠ q := hqc.symm
    have x1 := hb.set_ 0 (.pointer none)
    have x2 := x1.set_ 2 (.int .i64 (r : Int))
    have x3 := x2.set_ 0 (.pointer none)
    have x4 := x3.set_ 1 (.pointer none)
    have x5 := x4.set_ 2 (.int .i64 0)
    have x6 := (x5.far (p := ⟨q, 1, none⟩) hqc' (.pointer none)).alloc (.cells #[.pointer (some ⟨q, 0, none⟩), .pointer (some ⟨q, 0, none⟩), .int .i64 (ln : Int)] 27)
    have y5 := ((((hxb.far (p := ⟨c, 0, none⟩) hqc (.pointer none)).far (p := ⟨c, 2, none⟩) hqc (.int .i64 (r : Int))).far (p := ⟨c, 0, none⟩) hqc (.pointer none)).far (p := ⟨c, 1, none⟩) hqc (.pointer none)).far (p := ⟨c, 2, none⟩) hqc (.int .i64 0)
    have y6 := (y5.set_ 1 (.pointer none)).alloc (.cells #[.pointer (some ⟨q, 0, none⟩), .pointer (some ⟨q, 0, none⟩), .int .i64 (ln : Int)] 27)
    have kk := ((((((((Kc.refl (fun k _ => k = c ∨ k = q) w).setCell (p := ⟨c, 0, none⟩) hb rfl (fun _ => .inl rfl) (.pointer none)).setCell (p := ⟨c, 2, none⟩) x1 rfl (fun _ => .inl rfl) (.int .i64 (r : Int))).setCell (p := ⟨c, 0, none⟩) x2 rfl (fun _ => .inl rfl) (.pointer none)).setCell (p := ⟨c, 1, none⟩) x3 rfl (fun _ => .inl rfl) (.pointer none)).setCell (p := ⟨c, 2, none⟩) x4 rfl (fun _ => .inl rfl) (.int .i64 0)).setCell (p := ⟨q, 1, none⟩) y5 rfl (fun _ => .inr rfl) (.pointer none)).alloc (.cells #[.pointer (some ⟨q, 0, none⟩), .pointer (some ⟨q, 0, none⟩), .int .i64 (ln : Int)] 27)).drew
    have x7 := x6.same (w' := (World.alloc _ (.cells #[.pointer (some ⟨q, 0, none⟩), .pointer (some ⟨q, 0, none⟩), .int .i64 (ln : Int)] 27)).drew) rfl
    have y7 := y6.same (w' := (World.alloc _ (.cells #[.pointer (some ⟨q, 0, none⟩), .pointer (some ⟨q, 0, none⟩), .int .i64 (ln : Int)] 27)).drew) rfl
    rw [hln]
    rw [hln] at x7 y7 kk
    have := h.first (n := n) (by rw [← hln]; exact hn) (by rw [← hq]; exact kk) (by simpa [hdO, ltO, ptrO, flat] using x7) (by rw [← hq, ← hg, ← ho, ← hcp, ← hln]; rw [← hln] at y7; simpa using y7)
    rw [hq]; rw [hq] at this; exact this
  · obtain ⟨l0, hl0⟩ : ∃ l0, hdO L = some l0 := by cases L with
      | nil => exact absurd rfl hL
      | cons x L => exact ⟨_, rfl⟩
    have g1 : w.cell? ⟨q, 1, none⟩ = some (.pointer (some ⟨l0, 0, none⟩)) := by have := hxb.cell 1; rw [hl0] at this; exact this
    have HL := Lib.hid (And.intro hL hl0)
    clear h hx hb hxb hhd hq hg ho hcp hln hm hn hfit hr hlm hL hl0
    go_enter Try.func48, Try.ntmps48
    go_wp2_with fail
    go_region
    go_wp2_with fail
    refine bodyPost_ret (v := .agg #[.pointer (some ⟨q, 0, none⟩), .pointer (some ⟨q, 0, none⟩), .int .i64 (ln : Int)]) (by simp [results, Try.results48, go_sem]) rfl ?_
    obtain ⟨h, hq, hg, ho, hcp, hln, hm, hr, hn⟩ := H.out
    obtain ⟨hb, hxb⟩ := HB.out
    have hqc' : c ≠ q := hqc.symm
    obtain ⟨hL, hl0⟩ := HL.out
    have x1 := hb.set_ 0 (.pointer (some ⟨l0, 0, none⟩))
    have x2 := x1.set_ 2 (.int .i64 (r : Int))
    have x6 := (x2.far (p := ⟨q, 1, none⟩) hqc' (.pointer none)).alloc (.cells #[.pointer (some ⟨q, 0, none⟩), .pointer (some ⟨q, 0, none⟩), .int .i64 (ln : Int)] 27)
    have y5 := (hxb.far (p := ⟨c, 0, none⟩) hqc (.pointer (some ⟨l0, 0, none⟩))).far (p := ⟨c, 2, none⟩) hqc (.int .i64 (r : Int))
    have y6 := (y5.set_ 1 (.pointer none)).alloc (.cells #[.pointer (some ⟨q, 0, none⟩), .pointer (some ⟨q, 0, none⟩), .int .i64 (ln : Int)] 27)
    have kk := (((((Kc.refl (fun k _ => k = c ∨ k = q) w).setCell (p := ⟨c, 0, none⟩) hb rfl (fun _ => .inl rfl) (.pointer (some ⟨l0, 0, none⟩))).setCell (p := ⟨c, 2, none⟩) x1 rfl (fun _ => .inl rfl) (.int .i64 (r : Int))).setCell (p := ⟨q, 1, none⟩) y5 rfl (fun _ => .inr rfl) (.pointer none)).alloc (.cells #[.pointer (some ⟨q, 0, none⟩), .pointer (some ⟨q, 0, none⟩), .int .i64 (ln : Int)] 27)).drew
    have x7 := x6.same (w' := (World.alloc _ (.cells #[.pointer (some ⟨q, 0, none⟩), .pointer (some ⟨q, 0, none⟩), .int .i64 (ln : Int)] 27)).drew) rfl
    have y7 := y6.same (w' := (World.alloc _ (.cells #[.pointer (some ⟨q, 0, none⟩), .pointer (some ⟨q, 0, none⟩), .int .i64 (ln : Int)] 27)).drew) rfl
    have hlt : ltO (x :: L) = ltO L := ltO_append [x] L hL
    rw [hln]
    rw [hln] at x7 y7 kk
    have := h.first (n := n) (by rw [← hln]; exact hn) (by rw [← hq]; exact kk) (by rw [hl0, ← hr, ← hlt]; simpa [ptrO] using x7) (by rw [← hq, ← hg, ← ho, ← hcp, ← hln]; rw [← hln] at y7; simpa using y7)
    rw [hq]; rw [hq] at this; exact this
theorem shift_any (h : Cn w B t c (x :: L)) (n : Nat) (h0 : 0 < n) (hn2 : n ≤ 1048576) :
    Calls Try.prog 48 #[.pointer (some ⟨c, 0, none⟩), .int .i64 (n : Int)] w (Shifted w B t c n x L) := by
  by_cases hn : n < x.bs.length
  · exact shift_part h n h0 hn
  · exact shift_all h n (by omega) hn2
end
end Go.Proofs.Ytkhkhjkacibocaa
