/-
  Small calls of chains: length, room, count; a chunk alone; joining.
-/
import Derived.Test.YtkhkhjkacibocaaCmSeq
import Derived.Test.YtkhkhjkacibocaaChMem
namespace Go.Proofs.Ytkhkhjkacibocaa
open Go.RowKit Go.Maps Go.ChangeMaps

/-- The value of chunks that are handed on. -/
def linksV (L : List Lk) : Value := .agg #[ptrO (hdO L), ptrO (ltO L), .int .i64 ((flat L).length : Int)]
/-- Chunks that hang on no chain. -/
structure Free (w : World) (B : Nat) (L : List Lk) : Prop where
  lks : Lks w L
  sep : L.Pairwise Apart
  lo : ∀ x ∈ L, B ≤ x.lb ∧ B ≤ x.g

section
variable {w : World} {B c : Nat} {t : TypeId} {L M : List Lk}

set_option maxHeartbeats 1000000 in
theorem len_any (h : Cn w B 29 c L) : Calls Try.prog 12 #[.pointer (some ⟨c, 0, none⟩)] w fun e w' => e = .returned (.int .i64 ((flat L).length : Int)) ∧ w = w' := by
  have c2 := h.blk.cell 2
  simp at c2
  have l1 := h.blk.lt
  clear h
  go_enter Try.func12, Try.ntmps12
  go_wp2_with fail
  go_ret
  exact ⟨rfl, rfl⟩
theorem len_nil (w : World) : Calls Try.prog 12 #[.pointer none] w fun e w' => e = .returned (.int .i64 0) ∧ w = w' := by
  go_enter Try.func12, Try.ntmps12
  go_wp2_with fail
  go_ret
  exact ⟨rfl, rfl⟩

/-- Whether n more bytes may come. -/
def takesZ (L : List Lk) (n : Nat) : Int := if n + (flat L).length ≤ 1048576 then 0 else 70
set_option maxHeartbeats 1000000 in
theorem takes_any (h : Cn w B 29 c L) (n : Nat) : Calls Try.prog 40 #[.pointer (some ⟨c, 0, none⟩), .int .i64 (n : Int)] w fun e w' => e = .returned (.int .i64 (takesZ L n)) ∧ w = w' := by
  have HL := Lib.hid (len_any h)
  have hle := h.le
  obtain ⟨m, hm⟩ : ∃ m, m = (flat L).length := ⟨_, rfl⟩
  rw [← hm] at HL hle
  have e1 : IntKind.i64.wrap (1048576 - (m : Int)) = 1048576 - (m : Int) := IntWalk.i64_in _ (by omega)
  unfold takesZ
  rw [← hm]
  clear h hm
  by_cases hc : n + m ≤ 1048576
  · rw [if_pos hc]
    have b1 : decide (1048576 - (m : Int) < (n : Int)) = false := by simp; omega
    have b2 : ¬ (1048576 - (m : Int) < (n : Int)) := by omega
    clear hc
    go_enter Try.func40, Try.ntmps40
    go_wp2_with (go_at_call 12; refine HL.out.mono ?_; rintro e w' ⟨rfl, rfl⟩)
    go_ret
    exact ⟨rfl, rfl⟩
  · rw [if_neg hc]
    have b1 : decide (1048576 - (m : Int) < (n : Int)) = true := by simp; omega
    have b2 : 1048576 - (m : Int) < (n : Int) := by omega
    clear hc
    go_enter Try.func40, Try.ntmps40
    go_wp2_with (go_at_call 12; refine HL.out.mono ?_; rintro e w' ⟨rfl, rfl⟩)
    go_ret
    exact ⟨rfl, rfl⟩
theorem takes_nil (w : World) (n : Int) : Calls Try.prog 40 #[.pointer none, .int .i64 n] w fun e w' => e = .returned (.int .i64 1) ∧ w = w' := by
  go_enter Try.func40, Try.ntmps40
  go_wp2_with fail
  go_ret
  exact ⟨rfl, rfl⟩

/-- How many of n bytes there are from an index on. -/
def cntZ (m : Nat) (f n : Int) : Nat := if f < 0 then 0 else (min n ((m : Int) - f)).toNat
set_option maxHeartbeats 1000000 in
theorem count_of (P : Value) (m : Nat) (hm : m ≤ 1048576) (HL : Calls Try.prog 12 #[P] w fun e w' => e = .returned (.int .i64 (m : Int)) ∧ w = w') (f n : Int) (hf : -9223372036854775808 ≤ f ∧ f ≤ 9223372036854775807) (hn : -9223372036854775808 ≤ n ∧ n ≤ 9223372036854775807) :
    Calls Try.prog 42 #[P, .int .i64 f, .int .i64 n] w fun e w' => e = .returned (.int .i64 (cntZ m f n : Int)) ∧ w = w' := by
  have HL := Lib.hid HL
  unfold cntZ
  by_cases h0 : f < 0
  · rw [if_pos h0]
    go_enter Try.func42, Try.ntmps42
    go_wp2_with fail
    go_ret
    exact ⟨rfl, rfl⟩
  · rw [if_neg h0]
    have e1 : IntKind.i64.wrap ((m : Int) - f) = (m : Int) - f := IntWalk.i64_in _ (by omega)
    obtain ⟨r, hr⟩ : ∃ r, r = (min n ((m : Int) - f)).toNat := ⟨_, rfl⟩
    obtain ⟨s, hs⟩ : ∃ s, s = min n ((m : Int) - f) := ⟨_, rfl⟩
    have e2 : (if (m : Int) - f < n then (m : Int) - f else n) = s := by rw [hs]; split <;> omega
    have e3 : (if (0 : Int) < s then s else 0) = (r : Int) := by rw [hr, ← hs]; split <;> omega
    have b0 : 0 ≤ f := by omega
    rw [← hr]
    clear hr hs h0
    go_enter Try.func42, Try.ntmps42
    go_wp2_with (go_at_call 12; refine HL.out.mono ?_; rintro e w' ⟨rfl, rfl⟩)
    go_ret
    exact ⟨rfl, rfl⟩
theorem count_any (h : Cn w B 29 c L) (f n : Int) (hf : -9223372036854775808 ≤ f ∧ f ≤ 9223372036854775807) (hn : -9223372036854775808 ≤ n ∧ n ≤ 9223372036854775807) :
    Calls Try.prog 42 #[.pointer (some ⟨c, 0, none⟩), .int .i64 f, .int .i64 n] w fun e w' => e = .returned (.int .i64 (cntZ (flat L).length f n : Int)) ∧ w = w' :=
  count_of _ _ h.le (len_any h) f n hf hn
theorem count_nil (w : World) (f n : Int) (hf : -9223372036854775808 ≤ f ∧ f ≤ 9223372036854775807) (hn : -9223372036854775808 ≤ n ∧ n ≤ 9223372036854775807) :
    Calls Try.prog 42 #[.pointer none, .int .i64 f, .int .i64 n] w fun e w' => e = .returned (.int .i64 0) ∧ w = w' := by
  have := count_of (w := w) (.pointer none) 0 (by omega) (len_nil w) f n hf hn
  have e : cntZ 0 f n = 0 := by unfold cntZ; split <;> omega
  rw [e] at this
  exact this

/-- single: a chunk alone, of the bytes of a slice. -/
theorem single_any (w : World) (v : Value) (n : Nat) (A : Option Addr) (cp : Nat) (hv : v = .slice A n cp) : Calls Try.prog 49 #[v] w fun e w' =>
    e = .returned (.agg #[.pointer (some ⟨w.heap.size + 1, 0, none⟩), .pointer (some ⟨w.heap.size + 1, 0, none⟩), .int .i64 (n : Int)]) ∧ Blk w' (w.heap.size + 1) 72 #[v, .pointer none] ∧ Kept (fun _ => False) w w' ∧ w'.heap.size = w.heap.size + 2 := by
  subst hv
  go_enter Try.func49, Try.ntmps49
  go_wp2_with fail
  refine bodyPost_ret (v := .agg #[.pointer (some ⟨w.heap.size + 1, 0, none⟩), .pointer (some ⟨w.heap.size + 1, 0, none⟩), .int .i64 (n : Int)]) (by simp [results, Try.results49, go_sem]) rfl ⟨rfl, ?_, ((Kept.refl _ w).alloc _).alloc _, by simp⟩
  have := Blk.new (w.alloc (.cells #[.pointer (some ⟨w.heap.size + 1, 0, none⟩), .pointer (some ⟨w.heap.size + 1, 0, none⟩), .int .i64 (n : Int)] 27)) 72 #[.slice A n cp, .pointer none]
  simpa using this

theorem ltO_append (L M : List Lk) (h : M ≠ []) : ltO (L ++ M) = ltO M := by
  unfold ltO
  rw [List.getLast?_append]
  cases M with
  | nil => exact absurd rfl h
  | cons x M => simp [List.getLast?_cons]
theorem hdO_append (L M : List Lk) (h : L ≠ []) : hdO (L ++ M) = hdO L := by
  cases L with
  | nil => exact absurd rfl h
  | cons x L => rfl

/-- A chain's block laid anew. -/
theorem set3 {a b d a' b' d' : Value} (h : Blk w c t #[a, b, d]) : Blk (((w.setCell ⟨c, 0, none⟩ a').setCell ⟨c, 1, none⟩ b').setCell ⟨c, 2, none⟩ d') c t #[a', b', d'] ∧ Kc (fun k _ => k = c) w (((w.setCell ⟨c, 0, none⟩ a').setCell ⟨c, 1, none⟩ b').setCell ⟨c, 2, none⟩ d') := by
  have h1 := h.set_ 0 a'
  have h2 := h1.set_ 1 b'
  have h3 := h2.set_ 2 d'
  refine ⟨by simpa using h3, ?_⟩
  exact (((Kc.refl _ w).setCell (p := ⟨c, 0, none⟩) h rfl (fun _ => rfl) a').setCell (p := ⟨c, 1, none⟩) h1 rfl (fun _ => rfl) b').setCell (p := ⟨c, 2, none⟩) h2 rfl (fun _ => rfl) d'

/-- What join writes: the chain's own block, and its last chunk's link. -/
def Fj (c : Nat) (L : List Lk) (k _i : Nat) : Prop := k = c ∨ ltO L = some k
/-- Joined: the chain's block and the last link are laid. -/
theorem Cn.joined {w' : World} (h : Cn w B t c L) (hf : Free w B M) (hs : (L ++ M).Pairwise Apart) (hn : (flat L).length + (flat M).length ≤ 1048576) (hM : M ≠ []) (k : Kc (Fj c L) w w')
    (hb : Blk w' c t #[ptrO (hdO (L ++ M)), ptrO (ltO M), .int .i64 ((flat (L ++ M)).length : Int)]) (hl : ∀ y, L.getLast? = some y → Blk w' y.lb 72 #[.slice (some ⟨y.g, y.off, none⟩) y.bs.length y.cap, ptrO (hdO M)]) : Cn w' B t c (L ++ M) := by
  obtain ⟨s1, s2, s3⟩ := List.pairwise_append.1 hs
  have hcM : ∀ i, ¬ Fl M c i := own_ne h.blk h.ht hf.lks
  have hcL : ∀ i, ¬ Fl L c i := own_ne h.blk h.ht h.lks
  have hMk : Lks w' M := hf.lks.kc k fun j i hm hj => by
    rcases hj with rfl | hj
    · exact hcM i hm
    · unfold ltO at hj
      cases hg : L.getLast? with
      | none => rw [hg] at hj; cases hj
      | some y =>
        rw [hg] at hj
        have e : y.lb = j := Option.some.inj hj
        subst e
        obtain ⟨x, hx, ho⟩ := hm
        exact s3 y (List.mem_of_getLast? hg) x hx _ i (.inl rfl) ho
  refine ⟨by rw [ltO_append L M hM]; exact hb, h.ht, ?_, hs, ⟨h.lo.1, fun x hx => ?_⟩, by rw [flat_append, List.length_append]; exact hn⟩
  · cases hg : L.getLast? with
    | none => rw [List.getLast?_eq_none_iff.1 hg]; exact hMk
    | some y =>
      have aux : ∀ {L : List Lk}, Lks w L → L.getLast? = some y → (∀ i, ¬ Fl L c i) → (∀ j i, Fj c L j i → (j = c ∨ j = y.lb)) → L.Pairwise Apart → Lks w' (L ++ M) := fun {L} => by
        induction L with
        | nil => intro _ h2; simp at h2
        | cons x L ih =>
          intro h1 h2 h3 h4 h5
          cases L with
          | nil =>
            simp at h2; subst h2
            obtain ⟨cs, g1, g2⟩ := h1.1.dat
            refine ⟨⟨hl _ hg, h1.1.pos, h1.1.fit, h1.1.big, cs, g1.kc k (fun j e => ?_), g2⟩, hMk⟩
            rcases e with e | e
            · exact blk_ne h.blk g1 (by rcases h.ht with rfl | rfl <;> decide) e.symm
            · unfold ltO at e; rw [hg] at e
              exact h1.1.ne (Option.some.inj e)
          | cons x2 L =>
            have hy : y ∈ x2 :: L := List.mem_of_getLast? (by simpa using h2)
            have ha := (List.pairwise_cons.1 h5).1 y hy
            refine ⟨h1.1.kc k (fun j i ho e => ?_), ih h1.2 (by simpa using h2) (fun i ⟨z, hz, ho⟩ => h3 i ⟨z, List.mem_cons_of_mem _ hz, ho⟩) (fun j i e => ?_) (List.pairwise_cons.1 h5).2⟩
            · rcases e with e | e
              · subst e; exact h3 i ⟨x, by simp, ho⟩
              · unfold ltO at e; rw [hg] at e
                have e := Option.some.inj e
                simp only at e
                subst e; exact ha _ i ho (.inl rfl)
            · rcases e with e | e
              · exact .inl e
              · exact h4 j i (.inr (by unfold ltO at e ⊢; simpa using e))
      refine aux h.lks hg hcL (fun j i e => ?_) s1
      rcases e with e | e
      · exact .inl e
      · right; unfold ltO at e; rw [hg] at e; exact (Option.some.inj e).symm
  · rcases List.mem_append.1 hx with hx | hx
    · exact h.lo.2 x hx
    · exact hf.lo x hx

set_option maxRecDepth 100000 in
set_option maxHeartbeats 2000000 in
theorem join_any (h : Cn w B t c L) (hf : Free w B M) (hs : (L ++ M).Pairwise Apart) (hn : (flat L).length + (flat M).length ≤ 1048576) :
    Calls Try.prog 43 #[.pointer (some ⟨c, 0, none⟩), linksV M] w fun e w' => e = .returned (.tuple #[]) ∧ Cn w' B t c (L ++ M) ∧ Kc (Fj c L) w w' := by
  have hb := h.blk
  have l1 := hb.lt
  by_cases hM : M = []
  · subst hM
    have c0 := hb.cell 0
    have c1 := hb.cell 1
    have c2 := hb.cell 2
    simp at c0 c1 c2
    have HE := Lib.hid (show ∀ w', Kept (fun _ => False) w w' → Cn w' B t c (L ++ []) ∧ Kc (Fj c L) w w' from fun w' k => by rw [List.append_nil]; exact ⟨h.kept k, Kc.of_kept k⟩)
    clear h hf hs hn hb c0 c1 c2
    unfold linksV
    simp only [hdO, ltO, List.head?_nil, List.getLast?_nil, Option.map_none, ptrO, flat_nil, List.length_nil]
    go_enter Try.func43, Try.ntmps43
    go_wp2_with fail
    refine bodyPost_ret (results_none rfl _ _ _) rfl ⟨rfl, HE.out _ ?_⟩
    exact (Kept.refl _ w).alloc _
  · obtain ⟨m0, hm0⟩ : ∃ m0, hdO M = some m0 := by cases M with
      | nil => exact absurd rfl hM
      | cons x M => exact ⟨_, rfl⟩
    obtain ⟨m1, hm1⟩ : ∃ m1, ltO M = some m1 := by
      unfold ltO
      cases hg : M.getLast? with
      | none => exact absurd (List.getLast?_eq_none_iff.1 hg) hM
      | some y => exact ⟨_, rfl⟩
    obtain ⟨mn, hmn⟩ : ∃ mn, mn = (flat M).length := ⟨_, rfl⟩
    obtain ⟨ln, hln⟩ : ∃ ln, ln = (flat L).length := ⟨_, rfl⟩
    have hfl : (flat (L ++ M)).length = ln + mn := by rw [flat_append, List.length_append, hln, hmn]
    unfold linksV
    rw [hm0, hm1, ← hmn]
    rw [← hmn, ← hln] at hn
    rw [← hln] at hb
    have f0 := hb.frozen 0
    have f1 := hb.frozen 1
    have f2 := hb.frozen 2
    by_cases hL : L = []
    · subst hL
      obtain rfl : ln = 0 := hln
      have c0 : w.cell? ⟨c, 0, none⟩ = some (.pointer none) := hb.cell 0
      have c1 : w.cell? ⟨c, 1, none⟩ = some (.pointer none) := hb.cell 1
      have c2 : w.cell? ⟨c, 2, none⟩ = some (.int .i64 0) := hb.cell 2
      have HE := Lib.hid (show ∀ w', w' = (((w.setCell ⟨c, 0, none⟩ (.pointer (some ⟨m0, 0, none⟩))).setCell ⟨c, 1, none⟩ (.pointer (some ⟨m1, 0, none⟩))).setCell ⟨c, 2, none⟩ (.int .i64 (mn : Int))).alloc (.cells #[.pointer (some ⟨m0, 0, none⟩), .pointer (some ⟨m1, 0, none⟩), .int .i64 (mn : Int)] 27) → Cn w' B t c ([] ++ M) ∧ Kc (Fj c []) w w' from fun w' e => by
        subst e
        obtain ⟨b1, k1⟩ := set3 (a' := .pointer (some ⟨m0, 0, none⟩)) (b' := .pointer (some ⟨m1, 0, none⟩)) (d' := .int .i64 (mn : Int)) hb
        have k2 := (k1.mono (E := Fj c []) fun i j _ e => .inl e).alloc (.cells #[.pointer (some ⟨m0, 0, none⟩), .pointer (some ⟨m1, 0, none⟩), .int .i64 (mn : Int)] 27)
        refine ⟨h.joined hf hs (by rw [← hmn]; simpa [flat] using hn) hM k2 ?_ (fun y hy => by simp at hy), k2⟩
        rw [hfl, Nat.zero_add, List.nil_append, hm0, hm1]
        exact b1.alloc _)
      have HX := Lib.hid hmn
      clear h hf hs hn hb hmn hfl hM hm0 hm1
      simp only [ptrO]
      go_enter Try.func43, Try.ntmps43
      go_wp2_with fail
      refine bodyPost_ret (results_none rfl _ _ _) rfl ⟨rfl, HE.out _ rfl⟩
    · obtain ⟨l0, hl0⟩ : ∃ l0, hdO L = some l0 := by cases L with
        | nil => exact absurd rfl hL
        | cons x L => exact ⟨_, rfl⟩
      obtain ⟨y, hy⟩ : ∃ y, L.getLast? = some y := by
        cases hg : L.getLast? with
        | none => exact absurd (List.getLast?_eq_none_iff.1 hg) hL
        | some y => exact ⟨_, rfl⟩
      have hl1 : ltO L = some y.lb := by unfold ltO; rw [hy]; rfl
      rw [hl0, hl1] at hb
      have c0 : w.cell? ⟨c, 0, none⟩ = some (.pointer (some ⟨l0, 0, none⟩)) := hb.cell 0
      have c1 : w.cell? ⟨c, 1, none⟩ = some (.pointer (some ⟨y.lb, 0, none⟩)) := hb.cell 1
      have c2 : w.cell? ⟨c, 2, none⟩ = some (.int .i64 (ln : Int)) := hb.cell 2
      obtain ⟨nx, hyl⟩ := h.lks.mem (List.mem_of_getLast? hy)
      have hyb := hyl.blk
      obtain ⟨q, hq⟩ : ∃ q, q = y.lb := ⟨_, rfl⟩
      rw [← hq] at hyb c1 hl1 hb
      have hqc : q ≠ c := fun e => blk_ne hb hyb (by rcases h.ht with rfl | rfl <;> decide) e.symm
      have g1 := hyb.cell 1
      simp at g1
      have fg := hyb.frozen 1
      have lq := hyb.lt
      have e1 : IntKind.i64.wrap ((ln : Int) + (mn : Int)) = (ln : Int) + (mn : Int) := IntWalk.i64_in _ (by omega)
      have HE := Lib.hid (show ∀ w' o, w' = (((w.setCell ⟨q, 1, none⟩ (.pointer (some ⟨m0, 0, none⟩))).setCell ⟨c, 1, none⟩ (.pointer (some ⟨m1, 0, none⟩))).setCell ⟨c, 2, none⟩ (.int .i64 ((ln : Int) + (mn : Int)))).alloc o → ∀ d, Cn (w'.drewN d) B t c (L ++ M) ∧ Kc (Fj c L) w (w'.drewN d) from fun w' o e d => by
        subst e
        have b1 := hyb.set_ 1 (.pointer (some ⟨m0, 0, none⟩))
        have b2 : Blk (w.setCell ⟨q, 1, none⟩ (.pointer (some ⟨m0, 0, none⟩))) c t _ := hb.far (p := ⟨q, 1, none⟩) hqc.symm _
        have b3 := b2.set_ 1 (.pointer (some ⟨m1, 0, none⟩))
        have b4 := b3.set_ 2 (.int .i64 ((ln : Int) + (mn : Int)))
        have k2 := (((((Kc.refl (Fj c L) w).setCell (p := ⟨q, 1, none⟩) hyb rfl (fun _ => .inr hl1) (.pointer (some ⟨m0, 0, none⟩))).setCell (p := ⟨c, 1, none⟩) b2 rfl (fun _ => .inl rfl) (.pointer (some ⟨m1, 0, none⟩))).setCell (p := ⟨c, 2, none⟩) b3 rfl (fun _ => .inl rfl) (.int .i64 ((ln : Int) + (mn : Int)))).alloc o).drewN d
        refine ⟨h.joined hf hs (by rw [← hmn, ← hln]; exact hn) hM k2 ?_ (fun z hz => ?_), k2⟩
        · rw [hfl, hdO_append L M hL, hl0, hm1]
          have := b4.alloc o
          have := this.same (w' := (World.alloc _ o).drewN d) rfl
          simpa [ptrO] using this
        · rw [hy] at hz; cases hz
          have b5 := ((b1.far (p := ⟨c, 1, none⟩) hqc (.pointer (some ⟨m1, 0, none⟩))).far (p := ⟨c, 2, none⟩) hqc (.int .i64 ((ln : Int) + (mn : Int)))).alloc o
          have := b5.same (w' := (World.alloc _ o).drewN d) rfl
          rw [hm0, ← hq]
          simpa [ptrO] using this)
      have HX := Lib.hid hmn
      clear h hf hs hn hb hmn hln hfl hM hm0 hm1 hl0 hy hl1 hyl hyb hq hL
      simp only [ptrO]
      go_enter Try.func43, Try.ntmps43
      go_wp2_with fail
      go_region
      go_wp2_with fail
      go_region
      go_wp2_with fail
      go_end0
      exact ⟨rfl, HE.out _ _ rfl 2⟩
end
end Go.Proofs.Ytkhkhjkacibocaa
